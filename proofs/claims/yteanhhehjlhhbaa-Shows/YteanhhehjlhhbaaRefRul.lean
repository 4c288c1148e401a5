/- The document's rule: a rule's text; walked. -/
import Derived.Test.YteanhhehjlhhbaaShowDocT
import Derived.Test.YteanhhehjlhhbaaGramLow
import Derived.Test.YteanhhehjlhhbaaGramMayG
import Derived.Test.YteanhhehjlhhbaaRefShown
import Derived.Deep.RegionHeld3
import Derived.Deep.CutRange
import Derived.ProofKit
import Derived.OpenShut
import Derived.WalkLawsBesides
namespace Go.Proofs.Yteanhhehjlhhbaa
set_option linter.unusedVariables false
set_option linter.unusedSimpArgs false
open Go.ChangeShapes Go.WideShapes Go.ChangeAt Go.RowKit

theorem IsCns.lngS {w : World} {F : Nat → Prop} {v : Value} {l : List Cn} (h : IsCns w F v l) : ∃ p c, v = .slice p l.length c ∧ l.length ≤ maxLen := by
  obtain ⟨vs, ⟨p, c, e, hm, _⟩, _⟩ := h
  exact ⟨p, c, e, hm.1⟩
theorem ba_tl (T : ByteArray) (l : List UInt8) (h : T.data.toList = l) : T = ba l := by
  cases T with | mk a => cases a; simp at h; subst h; rfl
theorem belS {B : Nat} {w wr : World} (h : Below B w wr) (hB : B ≤ wr.heap.size) (o : Obj) : Below B w (wr.alloc o) := h.alloc hB o
set_option maxHeartbeats 4000000 in
set_option maxRecDepth 100000 in
theorem ruleD_any (g : Gr) (v1 v2 : Value) (hd : Int) (cs : List Cn) (u : Value) (w : World) {F : Nat → Prop} (p1 p2 : Option Addr) (n1 c1 n2 c2 : Nat) (e1 : v1 = .slice p1 n1 c1) (e2 : v2 = .slice p2 n2 c2) (hc : IsCns w F u cs) (hl : cs.length ≤ 8)
    (KS : ∀ c, c ∈ cs → (seqL g.names c.seq).length ≤ 3000 ∧ ∀ sv w', Below w.heap.size w w' → IsSys w' F sv c.seq → Calls Try.prog 30 #[.agg #[.int .i64 g.start, v1, v2], sv] w' fun e w'' => e = .returned (.string (ba (seqL g.names c.seq))) ∧ Hid (Below w'.heap.size w' w'')) :
    Calls Try.prog 16 #[.agg #[.int .i64 g.start, v1, v2], .agg #[.int .i64 hd, u]] w fun e w' => e = .returned (.string (ba (conjsT g.names cs))) ∧ Hid (Below w.heap.size w w') := by
  obtain ⟨p, cq, rfl, -⟩ := IsCns.lngS hc
  have HS : Hid (IsCns w F (.slice p cs.length cq) cs) := hc
  have HK : Hid (∀ c, c ∈ cs → (seqL g.names c.seq).length ≤ 3000 ∧ ∀ sv w', Below w.heap.size w w' → IsSys w' F sv c.seq → Calls Try.prog 30 #[.agg #[.int .i64 g.start, v1, v2], sv] w' fun e w'' => e = .returned (.string (ba (seqL g.names c.seq))) ∧ Hid (Below w'.heap.size w' w'')) := KS
  subst e1 e2
  clear hc KS
  have HBX : Hid (∀ X, X = (w.alloc (.cells #[.int .i64 g.start, .slice p1 n1 c1, .slice p2 n2 c2] 25)).alloc (.cells #[.int .i64 hd, .slice p cs.length cq] 38) → ∀ w', Below X.heap.size X w' → w'.cell? ⟨w.heap.size, 0, none⟩ = some (.int .i64 g.start) ∧ w'.cell? ⟨w.heap.size, 1, none⟩ = some (.slice p1 n1 c1) ∧ w'.cell? ⟨w.heap.size, 2, none⟩ = some (.slice p2 n2 c2) ∧ w'.cell? ⟨w.heap.size + 1, 1, none⟩ = some (.slice p cs.length cq) ∧ w.heap.size + 1 < w'.heap.size) := fun X hX w' hb => by
    have hs : X.heap.size = w.heap.size + 1 + 1 := by rw [hX]; simp
    have h0 : X.heap[w.heap.size]? = some (.cells #[.int .i64 g.start, .slice p1 n1 c1, .slice p2 n2 c2] 25) := by
      rw [hX]; exact ((bel1 _ _).block _ (by simp)).trans (heap_alloc_new w _)
    have h1 : X.heap[w.heap.size + 1]? = some (.cells #[.int .i64 hd, .slice p cs.length cq] 38) := by
      have h9 := heap_alloc_new (w.alloc (.cells #[.int .i64 g.start, .slice p1 n1 c1, .slice p2 n2 c2] 25)) (.cells #[.int .i64 hd, .slice p cs.length cq] 38)
      rw [show (w.alloc (.cells #[.int .i64 g.start, .slice p1 n1 c1, .slice p2 n2 c2] 25)).heap.size = w.heap.size + 1 by simp] at h9
      rw [hX]; exact h9
    have b0 := (hb.block w.heap.size (by omega)).trans h0
    have b1 := (hb.block (w.heap.size + 1) (by omega)).trans h1
    exact ⟨Lib.cell_of_heap b0 0, Lib.cell_of_heap b0 1, Lib.cell_of_heap b0 2, Lib.cell_of_heap b1 1, by have := hb.size; omega⟩
  obtain ⟨X, hX⟩ : ∃ X, X = (w.alloc (.cells #[.int .i64 g.start, .slice p1 n1 c1, .slice p2 n2 c2] 25)).alloc (.cells #[.int .i64 hd, .slice p cs.length cq] 38) := ⟨_, rfl⟩
  have HBY := HBX.out X hX
  have HBC : Hid (∀ w', Below X.heap.size X w' → w'.cell? ⟨w.heap.size, 0, none⟩ = some (.int .i64 g.start) ∧ w'.cell? ⟨w.heap.size, 1, none⟩ = some (.slice p1 n1 c1) ∧ w'.cell? ⟨w.heap.size, 2, none⟩ = some (.slice p2 n2 c2) ∧ w'.cell? ⟨w.heap.size + 1, 1, none⟩ = some (.slice p cs.length cq) ∧ w.heap.size + 1 < w'.heap.size) := HBY
  have HX0 : Hid (Below w.heap.size w X) := by rw [hX]; exact belS (bel1 _ _) (by simp) _
  clear HBX HBY
  go_enter Try.func16, Try.ntmps16
  go_upto_region 1 with fail
  rw [← hX]
  clear hX
  go_wp2
  go_loopw [5, 6] (fun s x wr => ∃ (i : Nat) (T : ByteArray), i ≤ cs.length ∧ x = .int .i64 i ∧ s = .string T ∧ Hid (T.data.toList = joinN [32, 38, 32] (conjAt g.names cs) i) ∧ T.size ≤ i * 4000 ∧ Hid (Below X.heap.size X wr)) (fun _ x _ => cs.length - (intOf x).toNat)
  case atStart => exact ⟨0, _, Nat.zero_le _, rfl, rfl, rfl, by decide, Below.refl _ _⟩
  case round =>
    obtain ⟨i, T, hi, rfl, rfl, HT, hTz, HBX⟩ := hrel
    obtain ⟨V, hV⟩ : ∃ V, V = wr := ⟨_, rfl⟩
    subst hV
    obtain ⟨x0, x1, x2, x3, x4⟩ := HBC.out V HBX.out
    have HB : Hid (Below w.heap.size w V) := HX0.out.trans (HBX.out.mono HX0.out.size)
    by_cases hlt : i < cs.length
    · obtain ⟨c, hcx⟩ : ∃ c, cs[i]? = some c := ⟨_, List.getElem?_eq_getElem hlt⟩
      obtain ⟨g3, o3, u3, hp3, b0, b1, hsy⟩ := (HS.out.any HB.out).row hcx
      subst hp3
      obtain ⟨hq0, hKS⟩ := HK.out c (List.mem_of_getElem? hcx)
      have hcj : conjAt g.names cs i = (if c.neg then [126] else []) ++ seqL g.names c.seq := by
        unfold conjAt
        rw [List.getD_eq_getElem?_getD, hcx]; rfl
      obtain ⟨ng, sq⟩ := c
      simp only at b0 b1 hsy hq0 hKS hcj
      obtain ⟨q4, c4, hu3⟩ := IsSys.slc hsy
      obtain ⟨m4, hm4⟩ : ∃ m, m = sq.length := ⟨_, rfl⟩
      rw [← hm4] at hu3
      subst hu3
      have hg3 : g3 < V.heap.size := cell_lt b1
      have KE0 : ∀ w2, Below V.heap.size V w2 → Calls Try.prog 30 #[.agg #[.int .i64 g.start, .slice p1 n1 c1, .slice p2 n2 c2], .slice q4 m4 c4] w2 fun e w' => e = .returned (.string (ba (seqL g.names sq))) ∧ Hid (Below w2.heap.size w2 w') := fun w2 h => hKS _ w2 (HB.out.trans (h.mono HB.out.size)) (IsSys.any hsy h)
      obtain ⟨Q, hQ⟩ : ∃ Q, Q = ba (seqL g.names sq) := ⟨_, rfl⟩
      have HQ : Hid (Q.data.toList = seqL g.names sq) := by rw [hQ]; show (ba _).data.toList = _; simp [ba]
      have hQz : Q.size ≤ 3000 := by rw [hQ, ba_size]; exact hq0
      rw [← hQ] at KE0
      have KE : Hid (∀ w2, Below V.heap.size V w2 → Calls Try.prog 30 #[.agg #[.int .i64 g.start, .slice p1 n1 c1, .slice p2 n2 c2], .slice q4 m4 c4] w2 fun e w' => e = .returned (.string Q) ∧ Hid (Below w2.heap.size w2 w')) := KE0
      have HSS : Hid (∀ w', Below V.heap.size V w' → Below V.heap.size V w' ∧ w'.cell? ⟨w.heap.size, 0, none⟩ = some (.int .i64 g.start) ∧ w'.cell? ⟨w.heap.size, 1, none⟩ = some (.slice p1 n1 c1) ∧ w'.cell? ⟨w.heap.size, 2, none⟩ = some (.slice p2 n2 c2) ∧ w'.cell? ⟨w.heap.size + 1, 1, none⟩ = some (.slice (some ⟨g3, o3, none⟩) cs.length cq) ∧ w'.cell? ⟨g3, o3 + i * 2 + 1, none⟩ = some (.slice q4 m4 c4)) := fun w' h =>
        ⟨h, (h.cell (p := ⟨_, _, none⟩) (by show w.heap.size < _; omega)).trans x0, (h.cell (p := ⟨_, _, none⟩) (by show w.heap.size < _; omega)).trans x1, (h.cell (p := ⟨_, _, none⟩) (by show w.heap.size < _; omega)).trans x2, (h.cell (p := ⟨_, _, none⟩) x4).trans x3, (h.cell (p := ⟨_, _, none⟩) hg3).trans b1⟩
      clear hcx hsy hKS hQ hm4 KE0 hq0
      have hTm : T.size ≤ 40000 := by have : i * 4000 ≤ 8 * 4000 := Nat.mul_le_mul_right _ (by omega); omega
      by_cases hi0 : i = 0
      · have hin : ¬ (0 : Int) < (i : Int) := by omega
        have hin2 : ¬ 0 < i := by omega
        have hind : decide ((0 : Int) < (i : Int)) = false := decide_eq_false hin
        clear hi0
        cases ng with
        | true =>
          · skip
            have q1 : ¬ 9223372036854775807 < T.size + 3 := by omega
            have q2 : ¬ 9223372036854775807 < T.size + 3 + 1 := by omega
            have q3 : ¬ 9223372036854775807 < T.size + 1 := by omega
            obtain ⟨T2, hT2⟩ : ∃ T2, T2 = (T ++ (⟨#[126]⟩ : ByteArray)) := ⟨_, rfl⟩
            have HT2 : Hid (T2.data.toList ++ seqL g.names sq = joinN [32, 38, 32] (conjAt g.names cs) (i + 1)) := by
              show _ = _
              rw [hT2, joinN, ← HT.out, hcj]
              simp [ByteArray.data_append, hin2]
            have hz2 : T2.size ≤ T.size + 4 := by
              rw [hT2]
              have z3 : (⟨#[32, 38, 32]⟩ : ByteArray).size = 3 := rfl
              have z1 : (⟨#[126]⟩ : ByteArray).size = 1 := rfl
              (try simp only [ByteArray.size_append]); omega
            clear hcj
            go_upto_region 9 with fail
            rw [← hT2]
            clear hT2 q1 q2 q3
            have k1 : ¬ 9223372036854775807 < T2.size + Q.size := by omega
            have ha1 := fun (w : World) => run_string_add_sum (P := Try.prog) (w := w) T2 Q (by omega)
            go_region_held3 (fun w' => Below V.heap.size V w' ∧ w'.cell? ⟨w.heap.size, 0, none⟩ = some (.int .i64 g.start) ∧ w'.cell? ⟨w.heap.size, 1, none⟩ = some (.slice p1 n1 c1) ∧ w'.cell? ⟨w.heap.size, 2, none⟩ = some (.slice p2 n2 c2) ∧ w'.cell? ⟨w.heap.size + 1, 1, none⟩ = some (.slice (some ⟨g3, o3, none⟩) cs.length cq) ∧ w'.cell? ⟨g3, o3 + i * 2 + 1, none⟩ = some (.slice q4 m4 c4))
              ((refine HSS.out _ ?_; (repeat' (first | with_reducible assumption | with_reducible exact Below.refl _ _ | with_reducible apply Below.drew))))
              ((go_at_call 30; refine (KE.out _ (by repeat' (first | exact Below.refl _ _ | apply Below.drew))).mono ?_; rintro e w3 ⟨rfl, b3⟩; have b4 : Below V.heap.size V w3 := Below.trans (b := V.drew) (Below.refl _ _).drew b3.out))
            have HB3 : Hid (Below X.heap.size X w3) := HBX.out.trans (b4.mono HBX.out.size)
            have HT3 : Hid ((T2 ++ Q).data.toList = joinN [32, 38, 32] (conjAt g.names cs) (i + 1)) := by
              show _ = _
              rw [← HT2.out, ByteArray.data_append, Array.toList_append, HQ.out]
            have hz3 : (T2 ++ Q).size ≤ (i + 1) * 4000 := by rw [ByteArray.size_append]; omega
            go_wp2
            go_roundw
            case rel => exact ⟨i + 1, T2 ++ Q, by omega, by go_num, rfl, HT3, hz3, HB3⟩
            case measure => simp [intOf]; omega
        | false =>
          · skip
            have q1 : ¬ 9223372036854775807 < T.size + 3 := by omega
            have q2 : ¬ 9223372036854775807 < T.size + 3 + 1 := by omega
            have q3 : ¬ 9223372036854775807 < T.size + 1 := by omega
            obtain ⟨T2, hT2⟩ : ∃ T2, T2 = T := ⟨_, rfl⟩
            have HT2 : Hid (T2.data.toList ++ seqL g.names sq = joinN [32, 38, 32] (conjAt g.names cs) (i + 1)) := by
              show _ = _
              rw [hT2, joinN, ← HT.out, hcj]
              simp [ByteArray.data_append, hin2]
            have hz2 : T2.size ≤ T.size + 4 := by
              rw [hT2]
              have z3 : (⟨#[32, 38, 32]⟩ : ByteArray).size = 3 := rfl
              have z1 : (⟨#[126]⟩ : ByteArray).size = 1 := rfl
              (try simp only [ByteArray.size_append]); omega
            clear hcj
            go_upto_region 9 with fail
            rw [← hT2]
            clear hT2 q1 q2 q3
            have k1 : ¬ 9223372036854775807 < T2.size + Q.size := by omega
            have ha1 := fun (w : World) => run_string_add_sum (P := Try.prog) (w := w) T2 Q (by omega)
            go_region_held3 (fun w' => Below V.heap.size V w' ∧ w'.cell? ⟨w.heap.size, 0, none⟩ = some (.int .i64 g.start) ∧ w'.cell? ⟨w.heap.size, 1, none⟩ = some (.slice p1 n1 c1) ∧ w'.cell? ⟨w.heap.size, 2, none⟩ = some (.slice p2 n2 c2) ∧ w'.cell? ⟨w.heap.size + 1, 1, none⟩ = some (.slice (some ⟨g3, o3, none⟩) cs.length cq) ∧ w'.cell? ⟨g3, o3 + i * 2 + 1, none⟩ = some (.slice q4 m4 c4))
              ((refine HSS.out _ ?_; (repeat' (first | with_reducible assumption | with_reducible exact Below.refl _ _ | with_reducible apply Below.drew))))
              ((go_at_call 30; refine (KE.out _ (by repeat' (first | exact Below.refl _ _ | apply Below.drew))).mono ?_; rintro e w3 ⟨rfl, b3⟩; have b4 : Below V.heap.size V w3 := Below.trans (b := V.drew) (Below.refl _ _).drew b3.out))
            have HB3 : Hid (Below X.heap.size X w3) := HBX.out.trans (b4.mono HBX.out.size)
            have HT3 : Hid ((T2 ++ Q).data.toList = joinN [32, 38, 32] (conjAt g.names cs) (i + 1)) := by
              show _ = _
              rw [← HT2.out, ByteArray.data_append, Array.toList_append, HQ.out]
            have hz3 : (T2 ++ Q).size ≤ (i + 1) * 4000 := by rw [ByteArray.size_append]; omega
            go_wp2
            go_roundw
            case rel => exact ⟨i + 1, T2 ++ Q, by omega, by go_num, rfl, HT3, hz3, HB3⟩
            case measure => simp [intOf]; omega
      · have hip : (0 : Int) < (i : Int) := by omega
        have hipn : 0 < i := by omega
        have hipd : decide ((0 : Int) < (i : Int)) = true := decide_eq_true hip
        cases ng with
        | true =>
          · skip
            have q1 : ¬ 9223372036854775807 < T.size + 3 := by omega
            have q2 : ¬ 9223372036854775807 < T.size + 3 + 1 := by omega
            have q3 : ¬ 9223372036854775807 < T.size + 1 := by omega
            obtain ⟨T2, hT2⟩ : ∃ T2, T2 = ((T ++ (⟨#[32, 38, 32]⟩ : ByteArray)) ++ (⟨#[126]⟩ : ByteArray)) := ⟨_, rfl⟩
            have HT2 : Hid (T2.data.toList ++ seqL g.names sq = joinN [32, 38, 32] (conjAt g.names cs) (i + 1)) := by
              show _ = _
              rw [hT2, joinN, ← HT.out, hcj]
              simp [ByteArray.data_append, hipn]
            have hz2 : T2.size ≤ T.size + 4 := by
              rw [hT2]
              have z3 : (⟨#[32, 38, 32]⟩ : ByteArray).size = 3 := rfl
              have z1 : (⟨#[126]⟩ : ByteArray).size = 1 := rfl
              (try simp only [ByteArray.size_append]); omega
            clear hcj
            go_upto_region 9 with fail
            rw [← hT2]
            clear hT2 q1 q2 q3
            have k1 : ¬ 9223372036854775807 < T2.size + Q.size := by omega
            have ha1 := fun (w : World) => run_string_add_sum (P := Try.prog) (w := w) T2 Q (by omega)
            go_region_held3 (fun w' => Below V.heap.size V w' ∧ w'.cell? ⟨w.heap.size, 0, none⟩ = some (.int .i64 g.start) ∧ w'.cell? ⟨w.heap.size, 1, none⟩ = some (.slice p1 n1 c1) ∧ w'.cell? ⟨w.heap.size, 2, none⟩ = some (.slice p2 n2 c2) ∧ w'.cell? ⟨w.heap.size + 1, 1, none⟩ = some (.slice (some ⟨g3, o3, none⟩) cs.length cq) ∧ w'.cell? ⟨g3, o3 + i * 2 + 1, none⟩ = some (.slice q4 m4 c4))
              ((refine HSS.out _ ?_; (repeat' (first | with_reducible assumption | with_reducible exact Below.refl _ _ | with_reducible apply Below.drew))))
              ((go_at_call 30; refine (KE.out _ (by repeat' (first | exact Below.refl _ _ | apply Below.drew))).mono ?_; rintro e w3 ⟨rfl, b3⟩; have b4 : Below V.heap.size V w3 := Below.trans (b := V.drew) (Below.refl _ _).drew b3.out))
            have HB3 : Hid (Below X.heap.size X w3) := HBX.out.trans (b4.mono HBX.out.size)
            have HT3 : Hid ((T2 ++ Q).data.toList = joinN [32, 38, 32] (conjAt g.names cs) (i + 1)) := by
              show _ = _
              rw [← HT2.out, ByteArray.data_append, Array.toList_append, HQ.out]
            have hz3 : (T2 ++ Q).size ≤ (i + 1) * 4000 := by rw [ByteArray.size_append]; omega
            go_wp2
            go_roundw
            case rel => exact ⟨i + 1, T2 ++ Q, by omega, by go_num, rfl, HT3, hz3, HB3⟩
            case measure => simp [intOf]; omega
        | false =>
          · skip
            have q1 : ¬ 9223372036854775807 < T.size + 3 := by omega
            have q2 : ¬ 9223372036854775807 < T.size + 3 + 1 := by omega
            have q3 : ¬ 9223372036854775807 < T.size + 1 := by omega
            obtain ⟨T2, hT2⟩ : ∃ T2, T2 = (T ++ (⟨#[32, 38, 32]⟩ : ByteArray)) := ⟨_, rfl⟩
            have HT2 : Hid (T2.data.toList ++ seqL g.names sq = joinN [32, 38, 32] (conjAt g.names cs) (i + 1)) := by
              show _ = _
              rw [hT2, joinN, ← HT.out, hcj]
              simp [ByteArray.data_append, hipn]
            have hz2 : T2.size ≤ T.size + 4 := by
              rw [hT2]
              have z3 : (⟨#[32, 38, 32]⟩ : ByteArray).size = 3 := rfl
              have z1 : (⟨#[126]⟩ : ByteArray).size = 1 := rfl
              (try simp only [ByteArray.size_append]); omega
            clear hcj
            go_upto_region 9 with fail
            rw [← hT2]
            clear hT2 q1 q2 q3
            have k1 : ¬ 9223372036854775807 < T2.size + Q.size := by omega
            have ha1 := fun (w : World) => run_string_add_sum (P := Try.prog) (w := w) T2 Q (by omega)
            go_region_held3 (fun w' => Below V.heap.size V w' ∧ w'.cell? ⟨w.heap.size, 0, none⟩ = some (.int .i64 g.start) ∧ w'.cell? ⟨w.heap.size, 1, none⟩ = some (.slice p1 n1 c1) ∧ w'.cell? ⟨w.heap.size, 2, none⟩ = some (.slice p2 n2 c2) ∧ w'.cell? ⟨w.heap.size + 1, 1, none⟩ = some (.slice (some ⟨g3, o3, none⟩) cs.length cq) ∧ w'.cell? ⟨g3, o3 + i * 2 + 1, none⟩ = some (.slice q4 m4 c4))
              ((refine HSS.out _ ?_; (repeat' (first | with_reducible assumption | with_reducible exact Below.refl _ _ | with_reducible apply Below.drew))))
              ((go_at_call 30; refine (KE.out _ (by repeat' (first | exact Below.refl _ _ | apply Below.drew))).mono ?_; rintro e w3 ⟨rfl, b3⟩; have b4 : Below V.heap.size V w3 := Below.trans (b := V.drew) (Below.refl _ _).drew b3.out))
            have HB3 : Hid (Below X.heap.size X w3) := HBX.out.trans (b4.mono HBX.out.size)
            have HT3 : Hid ((T2 ++ Q).data.toList = joinN [32, 38, 32] (conjAt g.names cs) (i + 1)) := by
              show _ = _
              rw [← HT2.out, ByteArray.data_append, Array.toList_append, HQ.out]
            have hz3 : (T2 ++ Q).size ≤ (i + 1) * 4000 := by rw [ByteArray.size_append]; omega
            go_wp2
            go_roundw
            case rel => exact ⟨i + 1, T2 ++ Q, by omega, by go_num, rfl, HT3, hz3, HB3⟩
            case measure => simp [intOf]; omega
    · obtain rfl : i = cs.length := by omega
      have HE : Hid (T = ba (conjsT g.names cs)) := ba_tl _ _ HT.out
      go_wp2
      go_ret
      exact ⟨by rw [← HE.out]; rfl, HB⟩
end Go.Proofs.Yteanhhehjlhhbaa
