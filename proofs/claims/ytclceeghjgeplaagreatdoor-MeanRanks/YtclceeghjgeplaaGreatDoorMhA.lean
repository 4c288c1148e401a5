/- ruled of layer 11's statements: does one of a name's rules hold of a span? -/
import Derived.Test.YtclceeghjgeplaaGreatDoorGq
namespace Go.Proofs.YtclceeghjgeplaaGreatDoor
set_option linter.unusedVariables false
set_option linter.unusedSimpArgs false
open Go.ChangeShapes Go.WideShapes Go.ChangeAt Go.RowKit Go.Maps

theorem tkAny {α : Type} {p : α → Bool} {l : List α} {k : Nat} {a : α} (h : l[k]? = some a) : (l.take (k + 1)).any p = ((l.take k).any p || p a) := by
  rw [List.take_add_one, h]
  simp
theorem tkAll {α : Type} {p : α → Bool} {l : List α} {k : Nat} {a : α} (h : l[k]? = some a) : (l.take (k + 1)).all p = ((l.take k).all p && p a) := by
  rw [List.take_add_one, h]
  simp
/-- A rule of this name that holds. -/
def rlB (b : Nat → Nat) (M : SpM) (x i j : Nat) (r : Ru) : Bool := decide (r.head.toNat = x) && holB3 b M r i j
set_option maxHeartbeats 8000000 in
set_option maxRecDepth 100000 in
theorem ruled_any {F : Nat → Prop} {g : Gr} {W : ByteArray} {M : SpM} {n tb : Nat} (v1 v2 : Value) (w : World) (hg : GrIs w F v1 v2 g) (h : TbM g W M n tb w) (hh : ∀ r, r ∈ g.rules → 0 ≤ r.head) {x i j : Nat} (hi : i ≤ j) (hj : j ≤ W.size) :
    Calls Tryz.prog 17 #[.agg #[.int .i64 g.start, v1, v2], .pointer (some ⟨tb, 0, none⟩), .int .i64 (x : Int), .int .i64 (i : Int), .int .i64 (j : Int)] w fun e w' => e = .returned (.bool (g.rules.any (rlB (btsW W) M x i j))) ∧ Hid (Below w.heap.size w w') := by
  obtain ⟨V, hV⟩ : ∃ V, V = w.alloc (.cells #[.int .i64 g.start, v1, v2] 25) := ⟨_, rfl⟩
  obtain ⟨gb, hgb⟩ : ∃ gb, gb = w.heap.size := ⟨_, rfl⟩
  have hVb : Below w.heap.size w V := by rw [hV]; exact bel1 _ _
  have u2 : V.cell? ⟨gb, 2, none⟩ = some v2 := by rw [hgb, hV]; exact World.cell?_alloc_at _ _ _ _ rfl
  have hgl : gb < V.heap.size := block_lt_of_cell u2
  have HVB : Hid (Below w.heap.size w V) := hVb
  have hTV := h.any hVb
  have hpl := h.pl
  have HRU : Hid (IsRus V F v2 g.rules) := hg.2.any hVb
  have KR : Hid (∀ (w' : World) (q c : Nat) (r : Ru) (d : Cn), Below V.heap.size V w' → g.rules[q]? = some r → r.conj[c]? = some d → Calls Tryz.prog 24 #[.pointer (some ⟨tb, 0, none⟩), .agg #[.int .i64 (q : Int), .int .i64 (c : Int), .int .i64 0], .int .i64 (i : Int), .int .i64 (j : Int)] w' fun e w'' => e = .returned (.bool (restB (btsW W) M d.seq i j)) ∧ Hid (Below w'.heap.size w' w'')) := fun w' q c r d hb hr hd => by
    have := rest_tb w' (hTV.any hb) hr hd (Nat.zero_le _) hi hj
    rw [List.drop_zero] at this
    exact this
  have HH : Hid (∀ r, r ∈ g.rules → 0 ≤ r.head) := hh
  obtain ⟨L, hL⟩ : ∃ L, L = g.rules := ⟨_, rfl⟩
  rw [← hL] at HRU KR HH hpl ⊢
  have HPL : Hid (PlIn L) := hpl
  obtain ⟨p2, q2, e2⟩ := lngR HRU.out
  obtain ⟨l, hl⟩ : ∃ l, l = L.length := ⟨_, rfl⟩
  have HL : Hid (l = L.length) := hl
  have hl256 : l ≤ 256 := by rw [hl]; exact hpl.1
  rw [← hl] at e2
  obtain ⟨b, hb0⟩ : ∃ b, b = btsW W := ⟨_, rfl⟩
  rw [← hb0] at KR ⊢
  obtain ⟨st, hst⟩ : ∃ st, st = g.start := ⟨_, rfl⟩
  rw [← hst] at hV ⊢
  subst e2
  obtain ⟨p1, c1, e1, -⟩ := hg.1
  subst e1
  have HSC0 : Hid (∀ w', Below V.heap.size V w' → w'.cell? ⟨gb, 2, none⟩ = some (.slice p2 l q2)) := fun w' hb => (hb.cell (p := ⟨gb, 2, none⟩) hgl).trans u2
  clear hg h hh hVb hTV hpl hl hL hb0 hst hi hj u2
  go_enter Tryz.func17, Tryz.ntmps17
  go_upto_region 1 with fail
  rw [← hV]
  rw [← hgb]
  clear hV hgb
  go_wp2
  go_loopw [11] (fun x' wr => ∃ m : Nat, m ≤ l ∧ x' = .int .i64 (m : Int) ∧ Hid (Below V.heap.size V wr) ∧ Hid ((L.take m).any (rlB b M x i j) = false)) (fun x' _ => l - (intOf x').toNat)
  case atStart => exact ⟨0, Nat.zero_le _, rfl, Below.refl _ _, rfl⟩
  case round =>
    obtain ⟨m, hm, rfl, HB, HA⟩ := hrel
    have c2 := HSC0.out wr HB.out
    by_cases hlt : m < l
    · obtain ⟨r, hr⟩ : ∃ r, L[m]? = some r := ⟨_, List.getElem?_eq_getElem (by rw [← HL.out]; exact hlt)⟩
      obtain ⟨g1, o1, u1, hp, a0, a1, hcn⟩ := HRU.out.row hr
      subst hp
      have lg : g1 < V.heap.size := block_lt_of_cell a0
      have h8 := (HPL.out.2 r (List.mem_of_getElem? hr)).1
      have hhd := HH.out r (List.mem_of_getElem? hr)
      have hta := tkAny (p := rlB b M x i j) hr
      rw [HA.out, Bool.false_or] at hta
      have HTA : Hid ((L.take (m + 1)).any (rlB b M x i j) = rlB b M x i j r) := hta
      have HLM : Hid (rlB b M x i j r = true → L.any (rlB b M x i j) = true) := fun ht => List.any_eq_true.2 ⟨r, List.mem_of_getElem? hr, ht⟩
      have KR2 : Hid (∀ (w' : World) (c : Nat) (d : Cn), Below V.heap.size V w' → r.conj[c]? = some d → Calls Tryz.prog 24 #[.pointer (some ⟨tb, 0, none⟩), .agg #[.int .i64 (m : Int), .int .i64 (c : Int), .int .i64 0], .int .i64 (i : Int), .int .i64 (j : Int)] w' fun e w'' => e = .returned (.bool (restB b M d.seq i j)) ∧ Hid (Below w'.heap.size w' w'')) := fun w' c d hb hd => KR.out w' m c r d hb hr hd
      obtain ⟨hd, cs⟩ := r
      simp only at a0 a1 hcn hhd h8 KR2
      obtain ⟨y, rfl⟩ : ∃ y : Nat, hd = (y : Int) := ⟨hd.toNat, by omega⟩
      obtain ⟨q, cq, hu1⟩ := lngC hcn
      subst hu1
      have HCN : Hid (IsCns V F (.slice q cs.length cq) cs) := hcn
      obtain ⟨l2, hl2⟩ : ∃ l2, l2 = cs.length := ⟨_, rfl⟩
      have HL2 : Hid (l2 = cs.length) := hl2
      rw [← hl2] at h8 a1 HCN
      have HSC : Hid (∀ w', Below V.heap.size V w' → w'.cell? ⟨gb, 2, none⟩ = some (.slice (some ⟨g1, o1, none⟩) l q2) ∧ w'.cell? ⟨g1, o1 + m * 2, none⟩ = some (.int .i64 (y : Int)) ∧ w'.cell? ⟨g1, o1 + m * 2 + 1, none⟩ = some (.slice q l2 cq)) := fun w' hb => ⟨HSC0.out w' hb, (hb.cell (p := ⟨g1, o1 + m * 2, none⟩) lg).trans a0, (hb.cell (p := ⟨g1, o1 + m * 2 + 1, none⟩) lg).trans a1⟩
      clear hr hta hcn hhd a0 a1 c2 hl2 HA
      obtain ⟨c2, a0, a1⟩ := HSC.out wr HB.out
      by_cases hyx : y = x
      · subst hyx
        have HRB : Hid (rlB b M y i j ⟨(y : Int), cs⟩ = cs.all fun c => conB3 b M c i j) := by
          show _ = _
          unfold rlB holB3
          simp
        go_wp2
        clear c2 a0 a1
        go_loopw [12, 13] (fun f x' wr => ∃ k : Nat, k ≤ l2 ∧ x' = .int .i64 (k : Int) ∧ f = .bool ((cs.take k).all fun c => conB3 b M c i j) ∧ Hid (Below V.heap.size V wr)) (fun _ x' _ => l2 - (intOf x').toNat)
        case atStart => exact ⟨0, Nat.zero_le _, rfl, rfl, HB⟩
        case round =>
          clear HB
          obtain ⟨k, hk, rfl, rfl, HB⟩ := hrel
          obtain ⟨c2, a0, a1⟩ := HSC.out wr HB.out
          by_cases hlt2 : k < l2
          · obtain ⟨d, hd⟩ : ∃ d, cs[k]? = some d := ⟨_, List.getElem?_eq_getElem (by rw [← HL2.out]; exact hlt2)⟩
            obtain ⟨g3, o3, u3, hp3, b0, b1, hsy⟩ := HCN.out.row hd
            subst hp3
            have lg3 : g3 < V.heap.size := block_lt_of_cell b0
            have htj := tkAll (p := fun c => conB3 b M c i j) hd
            have KR3 : Hid (∀ (w' : World), Below V.heap.size V w' → Calls Tryz.prog 24 #[.pointer (some ⟨tb, 0, none⟩), .agg #[.int .i64 (m : Int), .int .i64 (k : Int), .int .i64 0], .int .i64 (i : Int), .int .i64 (j : Int)] w' fun e w'' => e = .returned (.bool (restB b M d.seq i j)) ∧ Hid (Below w'.heap.size w' w'')) := fun w' hb => KR2.out w' k d hb hd
            obtain ⟨H, hH⟩ : ∃ H, H = (cs.take k).all fun c => conB3 b M c i j := ⟨_, rfl⟩
            rw [← hH] at htj ⊢
            obtain ⟨ng, sq⟩ := d
            simp only at b0 KR3
            unfold conB3 at htj
            simp only at htj
            obtain ⟨Rv, hRv⟩ : ∃ Rv, Rv = restB b M sq i j := ⟨_, rfl⟩
            rw [← hRv] at htj KR3
            have HTJ : Hid (((cs.take (k + 1)).all fun c => conB3 b M c i j) = (H && !(Rv == ng))) := htj
            have HS3 : Hid (∀ w', Below wr.heap.size wr w' → w'.cell? ⟨gb, 2, none⟩ = some (.slice (some ⟨g1, o1, none⟩) l q2) ∧ w'.cell? ⟨g1, o1 + m * 2 + 1, none⟩ = some (.slice (some ⟨g3, o3, none⟩) l2 cq) ∧ w'.cell? ⟨g3, o3 + k * 2, none⟩ = some (.bool ng)) := fun w' hb => by
              have hb' := HB.out.trans (hb.mono HB.out.size)
              obtain ⟨x1, x2, x3⟩ := HSC.out w' hb'
              exact ⟨x1, x3, (hb'.cell (p := ⟨g3, o3 + k * 2, none⟩) lg3).trans b0⟩
            have KR4 : Hid (∀ (w' : World), Below wr.heap.size wr w' → Calls Tryz.prog 24 #[.pointer (some ⟨tb, 0, none⟩), .agg #[.int .i64 (m : Int), .int .i64 (k : Int), .int .i64 0], .int .i64 (i : Int), .int .i64 (j : Int)] w' fun e w'' => e = .returned (.bool Rv) ∧ Hid (Below w'.heap.size w' w'')) := fun w' hb => KR3.out w' (HB.out.trans (hb.mono HB.out.size))
            clear hd htj hH hRv hsy KR3 b0 b1
            cases H with
            | false =>
              have HTN : Hid (((cs.take (k + 1)).all fun c => conB3 b M c i j) = false) := by show _ = _; rw [HTJ.out]; rfl
              clear HTJ
              have HBD : Hid (Below V.heap.size V wr.drew) := HB.out.drew
              go_upto_region 9 with fail
              go_region
              all_goals
                go_wp2
                go_roundw
                case rel => exact ⟨k + 1, by omega, by go_num, by rw [HTN.out], by first | exact HB | exact HBD⟩
                case measure => simp [intOf]; omega
            | true =>
              go_upto_region 9 with fail
              clear c2 a0 a1
              go_region_held3 (fun w' => Below wr.heap.size wr w' ∧ w'.cell? ⟨gb, 2, none⟩ = some (.slice (some ⟨g1, o1, none⟩) l q2) ∧ w'.cell? ⟨g1, o1 + m * 2 + 1, none⟩ = some (.slice (some ⟨g3, o3, none⟩) l2 cq) ∧ w'.cell? ⟨g3, o3 + k * 2, none⟩ = some (.bool ng))
                ((refine (fun hb => ⟨hb, HS3.out _ hb⟩ : Below wr.heap.size wr _ → _) ?_; repeat' (first | with_reducible assumption | with_reducible exact Below.refl _ _ | with_reducible apply Below.drew)))
                ((go_at_call 24; refine (KR4.out _ (Below.refl _ wr).drew).mono ?_; rintro e w4 ⟨rfl, hb2⟩; have b4 : Below wr.heap.size wr w4 := ((Below.refl _ wr).drew).trans hb2.out; clear hb2))
              have HB4 : Hid (Below V.heap.size V w4) := HB.out.trans (b4.mono HB.out.size)
              clear b4 KR4 HS3
              go_wp2
              go_roundw
              case rel => exact ⟨k + 1, by omega, by go_num, by rw [HTJ.out]; cases Rv <;> cases ng <;> rfl, HB4⟩
              case measure => simp [intOf]; omega
          · obtain rfl : k = l2 := by omega
            obtain ⟨Q, hQ⟩ : ∃ Q, Q = rlB b M y i j ⟨(y : Int), cs⟩ := ⟨_, rfl⟩
            have htl : ((cs.take k).all fun c => conB3 b M c i j) = Q := by rw [HL2.out, List.take_length, ← HRB.out, hQ]
            rw [htl]
            rw [← hQ] at HTA HLM
            clear htl
            cases Q with
            | true =>
              have HAL : Hid (L.any (rlB b M y i j) = true) := HLM.out rfl
              have HF : Hid (Below w.heap.size w wr) := HVB.out.trans (HB.out.mono HVB.out.size)
              clear HTA HLM hQ
              go_wp2
              go_ret
              exact ⟨by rw [HAL.out]; rfl, HF⟩
            | false =>
              clear HLM hQ
              go_wp2
              go_roundw
              case rel => exact ⟨m + 1, by omega, by go_num, HB, HTA⟩
              case measure => simp [intOf]; omega
      · have HTN : Hid ((L.take (m + 1)).any (rlB b M x i j) = false) := by
          show _ = _
          rw [HTA.out]; unfold rlB; simp [hyx]
        have n1 : ((y : Int) == (x : Int)) = false := by rw [beq_eq_false_iff_ne]; omega
        have n2 : ¬ (y : Int) = (x : Int) := by omega
        clear HTA HLM
        go_wp2
        go_roundw
        case rel => exact ⟨m + 1, by omega, by go_num, HB, HTN⟩
        case measure => simp [intOf]; omega
    · obtain rfl : m = l := by omega
      have hA := HA.out
      rw [HL.out, List.take_length] at hA
      have HA2 : Hid (L.any (rlB b M x i j) = false) := hA
      have HF : Hid (Below w.heap.size w wr) := HVB.out.trans (HB.out.mono HVB.out.size)
      clear hA HA
      go_wp2
      go_ret
      exact ⟨by rw [HA2.out]; rfl, HF⟩
end Go.Proofs.YtclceeghjgeplaaGreatDoor
