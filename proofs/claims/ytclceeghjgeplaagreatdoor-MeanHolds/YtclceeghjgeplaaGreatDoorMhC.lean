/- parts of layer 11's statements: all rests of a span hold by their parts. -/
import Derived.Test.YtclceeghjgeplaaGreatDoorMhB
namespace Go.Proofs.YtclceeghjgeplaaGreatDoor
set_option linter.unusedVariables false
set_option linter.unusedSimpArgs false
open Go.ChangeShapes Go.WideShapes Go.ChangeAt Go.RowKit Go.Maps

/-- Each symbol is a range or a name that is there. -/
def SyInG (g : Gr) : Prop := ∀ r, r ∈ g.rules → ∀ c, c ∈ r.conj → ∀ s, s ∈ c.seq → s.name = -1 ∨ (0 ≤ s.name ∧ s.name < (g.names.length : Int))
set_option maxHeartbeats 8000000 in
set_option maxRecDepth 100000 in
theorem parts_any {F : Nat → Prop} {g : Gr} {W : ByteArray} {M : SpM} {n tb : Nat} (v1 v2 : Value) (w : World) (hg : GrIs w F v1 v2 g) (h : TbM g W M n tb w) (hsy : SyInG g) {i j : Nat} (hi : i ≤ j) (hj : j ≤ W.size) :
    Calls Tryz.prog 18 #[.agg #[.int .i64 g.start, v1, v2], .string W, .pointer (some ⟨tb, 0, none⟩), .int .i64 (i : Int), .int .i64 (j : Int)] w fun e w' => e = .returned (.bool true) ∧ Hid (Below w.heap.size w w') := by
  obtain ⟨V, hV⟩ : ∃ V, V = w.alloc (.cells #[.int .i64 g.start, v1, v2] 25) := ⟨_, rfl⟩
  obtain ⟨gb, hgb⟩ : ∃ gb, gb = w.heap.size := ⟨_, rfl⟩
  have hVb : Below w.heap.size w V := by rw [hV]; exact bel1 _ _
  have u2 : V.cell? ⟨gb, 2, none⟩ = some v2 := by rw [hgb, hV]; exact World.cell?_alloc_at _ _ _ _ rfl
  have hgl : gb < V.heap.size := block_lt_of_cell u2
  have HVB : Hid (Below w.heap.size w V) := hVb
  have hTV := h.any hVb
  have hpl := h.pl
  have HRU : Hid (IsRus V F v2 g.rules) := hg.2.any hVb
  have KR : Hid (∀ (w' : World) (q c p : Nat) (r : Ru) (d : Cn), Below V.heap.size V w' → g.rules[q]? = some r → r.conj[c]? = some d → p ≤ d.seq.length → Calls Tryz.prog 24 #[.pointer (some ⟨tb, 0, none⟩), .agg #[.int .i64 (q : Int), .int .i64 (c : Int), .int .i64 (p : Int)], .int .i64 (i : Int), .int .i64 (j : Int)] w' fun e w'' => e = .returned (.bool (restB (btsW W) M (d.seq.drop p) i j)) ∧ Hid (Below w'.heap.size w' w'')) := fun w' q c p r d hb hr hd hp => rest_tb w' (hTV.any hb) hr hd hp hi hj
  have KP : Hid (∀ (w' : World) (q c p : Nat) (r : Ru) (d : Cn) (v : Value), Below V.heap.size V w' → g.rules[q]? = some r → r.conj[c]? = some d → p ≤ d.seq.length → IsSys V F v d.seq → Calls Tryz.prog 33 #[v, .string W, .pointer (some ⟨tb, 0, none⟩), .agg #[.int .i64 (q : Int), .int .i64 (c : Int), .int .i64 (p : Int)], .int .i64 (i : Int), .int .i64 (j : Int)] w' fun e w'' => e = .returned (.bool (restB (btsW W) M (d.seq.drop p) i j)) ∧ Hid (Below w'.heap.size w' w'')) := fun w' q c p r d v hb hr hd hp hv => part_any w' (hTV.any hb) hr hd hp (hv.any hb) (fun s hs => hsy r (List.mem_of_getElem? hr) d (List.mem_of_getElem? hd) s hs) hi hj
  obtain ⟨L, hL⟩ : ∃ L, L = g.rules := ⟨_, rfl⟩
  rw [← hL] at HRU KR KP hpl
  have HPL : Hid (PlIn L) := hpl
  obtain ⟨p2, q2, e2⟩ := lngR HRU.out
  obtain ⟨l, hl⟩ : ∃ l, l = L.length := ⟨_, rfl⟩
  have HL : Hid (l = L.length) := hl
  have hl256 : l ≤ 256 := by rw [hl]; exact hpl.1
  rw [← hl] at e2
  obtain ⟨b, hb0⟩ : ∃ b, b = btsW W := ⟨_, rfl⟩
  rw [← hb0] at KR KP
  obtain ⟨st, hst⟩ : ∃ st, st = g.start := ⟨_, rfl⟩
  rw [← hst] at hV ⊢
  subst e2
  obtain ⟨p1, c1, e1, -⟩ := hg.1
  subst e1
  have HSC0 : Hid (∀ w', Below V.heap.size V w' → w'.cell? ⟨gb, 2, none⟩ = some (.slice p2 l q2)) := fun w' hb => (hb.cell (p := ⟨gb, 2, none⟩) hgl).trans u2
  clear hg h hVb hTV hpl hl hL hb0 hst hi hj u2 hsy
  go_enter Tryz.func18, Tryz.ntmps18
  go_upto_region 1 with fail
  rw [← hV]
  rw [← hgb]
  clear hV hgb
  go_wp2
  go_loopw [11] (fun x' wr => ∃ m : Nat, m ≤ l ∧ x' = .int .i64 (m : Int) ∧ Hid (Below V.heap.size V wr)) (fun x' _ => l - (intOf x').toNat)
  case atStart => exact ⟨0, Nat.zero_le _, rfl, Below.refl _ _⟩
  case round =>
    obtain ⟨m, hm, rfl, HB⟩ := hrel
    have c2 := HSC0.out wr HB.out
    by_cases hlt : m < l
    · obtain ⟨r, hr⟩ : ∃ r, L[m]? = some r := ⟨_, List.getElem?_eq_getElem (by rw [← HL.out]; exact hlt)⟩
      obtain ⟨g1, o1, u1, hp, a0, a1, hcn⟩ := HRU.out.row hr
      subst hp
      have lg : g1 < V.heap.size := block_lt_of_cell a0
      obtain ⟨h8, h9⟩ := HPL.out.2 r (List.mem_of_getElem? hr)
      have H9 : Hid (∀ c, c ∈ r.conj → c.seq.length ≤ 64) := h9
      have KR2 : Hid (∀ (w' : World) (c p : Nat) (d : Cn), Below V.heap.size V w' → r.conj[c]? = some d → p ≤ d.seq.length → Calls Tryz.prog 24 #[.pointer (some ⟨tb, 0, none⟩), .agg #[.int .i64 (m : Int), .int .i64 (c : Int), .int .i64 (p : Int)], .int .i64 (i : Int), .int .i64 (j : Int)] w' fun e w'' => e = .returned (.bool (restB b M (d.seq.drop p) i j)) ∧ Hid (Below w'.heap.size w' w'')) := fun w' c p d hb hd hp => KR.out w' m c p r d hb hr hd hp
      have KP2 : Hid (∀ (w' : World) (c p : Nat) (d : Cn) (v : Value), Below V.heap.size V w' → r.conj[c]? = some d → p ≤ d.seq.length → IsSys V F v d.seq → Calls Tryz.prog 33 #[v, .string W, .pointer (some ⟨tb, 0, none⟩), .agg #[.int .i64 (m : Int), .int .i64 (c : Int), .int .i64 (p : Int)], .int .i64 (i : Int), .int .i64 (j : Int)] w' fun e w'' => e = .returned (.bool (restB b M (d.seq.drop p) i j)) ∧ Hid (Below w'.heap.size w' w'')) := fun w' c p d v hb hd hp hv => KP.out w' m c p r d v hb hr hd hp hv
      obtain ⟨hd, cs⟩ := r
      simp only at a0 a1 hcn h8 KR2 KP2 H9
      obtain ⟨q, cq, hu1⟩ := lngC hcn
      subst hu1
      have HCN : Hid (IsCns V F (.slice q cs.length cq) cs) := hcn
      obtain ⟨l2, hl2⟩ : ∃ l2, l2 = cs.length := ⟨_, rfl⟩
      have HL2 : Hid (l2 = cs.length) := hl2
      rw [← hl2] at h8 a1 HCN
      have HSC : Hid (∀ w', Below V.heap.size V w' → w'.cell? ⟨gb, 2, none⟩ = some (.slice (some ⟨g1, o1, none⟩) l q2) ∧ w'.cell? ⟨g1, o1 + m * 2 + 1, none⟩ = some (.slice q l2 cq)) := fun w' hb => ⟨HSC0.out w' hb, (hb.cell (p := ⟨g1, o1 + m * 2 + 1, none⟩) lg).trans a1⟩
      clear hr hcn a0 a1 c2 hl2 h9
      obtain ⟨c2, a1⟩ := HSC.out wr HB.out
      go_wp2
      clear c2 a1
      go_loopw [12] (fun x' wr => ∃ k : Nat, k ≤ l2 ∧ x' = .int .i64 (k : Int) ∧ Hid (Below V.heap.size V wr)) (fun x' _ => l2 - (intOf x').toNat)
      case atStart => exact ⟨0, Nat.zero_le _, rfl, HB⟩
      case round =>
        clear HB
        obtain ⟨k, hk, rfl, HB⟩ := hrel
        obtain ⟨c2, a1⟩ := HSC.out wr HB.out
        by_cases hlt2 : k < l2
        · obtain ⟨d, hd'⟩ : ∃ d, cs[k]? = some d := ⟨_, List.getElem?_eq_getElem (by rw [← HL2.out]; exact hlt2)⟩
          obtain ⟨g3, o3, u3, hp3, b0, b1, hsy⟩ := HCN.out.row hd'
          subst hp3
          have lg3 : g3 < V.heap.size := block_lt_of_cell b0
          have h64 := H9.out d (List.mem_of_getElem? hd')
          have KR3 : Hid (∀ (w' : World) (p : Nat), Below V.heap.size V w' → p ≤ d.seq.length → Calls Tryz.prog 24 #[.pointer (some ⟨tb, 0, none⟩), .agg #[.int .i64 (m : Int), .int .i64 (k : Int), .int .i64 (p : Int)], .int .i64 (i : Int), .int .i64 (j : Int)] w' fun e w'' => e = .returned (.bool (restB b M (d.seq.drop p) i j)) ∧ Hid (Below w'.heap.size w' w'')) := fun w' p hb hp => KR2.out w' k p d hb hd' hp
          have KP3 : Hid (∀ (w' : World) (p : Nat), Below V.heap.size V w' → p ≤ d.seq.length → Calls Tryz.prog 33 #[u3, .string W, .pointer (some ⟨tb, 0, none⟩), .agg #[.int .i64 (m : Int), .int .i64 (k : Int), .int .i64 (p : Int)], .int .i64 (i : Int), .int .i64 (j : Int)] w' fun e w'' => e = .returned (.bool (restB b M (d.seq.drop p) i j)) ∧ Hid (Below w'.heap.size w' w'')) := fun w' p hb hp => KP2.out w' k p d u3 hb hd' hp hsy
          obtain ⟨q4, c4, hu3⟩ := hsy.slc
          subst hu3
          obtain ⟨l3, hl3⟩ : ∃ l3, l3 = d.seq.length := ⟨_, rfl⟩
          rw [← hl3] at h64 KR3 KP3 b1
          obtain ⟨f, hf⟩ : ∃ f : Nat → Bool, f = fun p => restB b M (d.seq.drop p) i j := ⟨_, rfl⟩
          have hfp : ∀ p, restB b M (d.seq.drop p) i j = f p := fun p => by rw [hf]
          simp only [hfp] at KR3 KP3
          have b1' := (HB.out.cell (p := ⟨g3, o3 + k * 2 + 1, none⟩) lg3).trans b1
          clear hd' hsy b0 b1 hl3 hf hfp
          go_wp2
          clear c2 a1 b1'
          go_loopw [14] (fun x' wr => ∃ p : Nat, p ≤ l3 + 1 ∧ x' = .int .i64 (p : Int) ∧ Hid (Below V.heap.size V wr)) (fun x' _ => l3 + 1 - (intOf x').toNat)
          case atStart => exact ⟨0, Nat.zero_le _, rfl, HB⟩
          case round =>
            clear HB
            obtain ⟨p, hp, rfl, HB⟩ := hrel
            by_cases hlt3 : p ≤ l3
            · have K1 : Hid (Calls Tryz.prog 24 #[.pointer (some ⟨tb, 0, none⟩), .agg #[.int .i64 (m : Int), .int .i64 (k : Int), .int .i64 (p : Int)], .int .i64 (i : Int), .int .i64 (j : Int)] wr fun e w'' => e = .returned (.bool (f p)) ∧ Hid (Below wr.heap.size wr w'')) := KR3.out wr p HB.out hlt3
              have K2 : Hid (∀ w', Below V.heap.size V w' → Calls Tryz.prog 33 #[.slice q4 l3 c4, .string W, .pointer (some ⟨tb, 0, none⟩), .agg #[.int .i64 (m : Int), .int .i64 (k : Int), .int .i64 (p : Int)], .int .i64 (i : Int), .int .i64 (j : Int)] w' fun e w'' => e = .returned (.bool (f p)) ∧ Hid (Below w'.heap.size w' w'')) := fun w' hb => KP3.out w' p hb hlt3
              obtain ⟨fp, hfp⟩ : ∃ fp, fp = f p := ⟨_, rfl⟩
              rw [← hfp] at K1 K2
              clear hfp
              have bq : (!(fp == fp)) = false := by cases fp <;> rfl
              have bq2 : (fp != fp) = false := by cases fp <;> rfl
              go_wp2_with (first | (go_at_call 24; refine K1.out.mono ?_; rintro e w4 ⟨rfl, b4⟩; have HB4 : Hid (Below V.heap.size V w4) := HB.out.trans (b4.out.mono HB.out.size)) | (go_at_call 33; refine (K2.out _ HB4.out).mono ?_; rintro e w5 ⟨rfl, b5⟩; have HB5 : Hid (Below V.heap.size V w5) := HB4.out.trans (b5.out.mono HB4.out.size)))
              go_roundw
              case rel => exact ⟨p + 1, by omega, by go_num, HB5⟩
              case measure => simp [intOf]; omega
            · obtain rfl : p = l3 + 1 := by omega
              go_wp2
              go_roundw
              case rel => exact ⟨k + 1, by omega, by go_num, HB⟩
              case measure => simp [intOf]; omega
        · obtain rfl : k = l2 := by omega
          go_wp2
          go_roundw
          case rel => exact ⟨m + 1, by omega, by go_num, HB⟩
          case measure => simp [intOf]; omega
    · obtain rfl : m = l := by omega
      have HF : Hid (Below w.heap.size w wr) := HVB.out.trans (HB.out.mono HVB.out.size)
      go_wp2
      go_ret
      exact ⟨rfl, HF⟩
end Go.Proofs.YtclceeghjgeplaaGreatDoor
