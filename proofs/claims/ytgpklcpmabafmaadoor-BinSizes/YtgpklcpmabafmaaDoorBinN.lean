/- The new names (package bin). -/
import Derived.Test.YtgpklcpmabafmaaDoorBinU
import Derived.Test.YtgpklcpmabafmaaDoorBinC
import Derived.Test.YtgpklcpmabafmaaDoorGramSame
namespace Go.Proofs.YtgpklcpmabafmaaDoor
set_option linter.unusedVariables false
set_option linter.unusedSimpArgs false
open Go.ChangeShapes Go.WideShapes Go.ChangeAt Go.RowKit

set_option maxHeartbeats 4000000 in
set_option maxRecDepth 100000 in
theorem indexS_any (ns : List ByteArray) (t : ByteArray) (v : Value) (w : World) {F : Nat → Prop} (hs : IsTexts w F v ns) :
    Calls Tryd.prog 37 #[v, .string t] w fun e w' => (∃ z : Int, e = .returned (.int .i64 z) ∧ Hid (0 ≤ z ↔ t ∈ ns)) ∧ w = w' := by
  obtain ⟨p, c, rfl, hm, hx⟩ := hs
  have hml : ns.length ≤ 9223372036854775807 := by have := hm.1; unfold maxLen at this; omega
  have HX : Hid (∀ i a, ns[i]? = some a → ∃ g o, p = some ⟨g, o, none⟩ ∧ w.cell? ⟨g, o + i, none⟩ = some (.string a)) := fun i a hi => by
    have hl := (List.getElem?_eq_some_iff.1 hi).1
    obtain ⟨g, o, e1, -, -, e2, -⟩ := hx (by omega)
    exact ⟨g, o, e1, e2 i _ (by simp [txV, hi])⟩
  obtain ⟨n, hn⟩ : ∃ n, n = ns.length := ⟨_, rfl⟩
  have HN : Hid (n = ns.length) := hn
  rw [← hn] at hml ⊢
  clear hm hx hn
  go_enter Tryd.func37, Tryd.ntmps37
  go_wp2
  go_loopw [8] (fun x wr => ∃ i : Nat, i ≤ n ∧ x = .int .i64 (i : Int) ∧ Hid (wr = w) ∧ Hid (∀ j a, j < i → ns[j]? = some a → a ≠ t)) (fun x _ => n - (intOf x).toNat)
  case atStart => exact ⟨0, Nat.zero_le _, rfl, rfl, fun j a h => by omega⟩
  case round =>
    obtain ⟨i, hi, rfl, HW, HJ⟩ := hrel
    obtain rfl : wr = w := HW.out
    clear HW
    by_cases hlt : i < n
    · obtain ⟨a, ha⟩ : ∃ a, ns[i]? = some a := ⟨_, List.getElem?_eq_getElem (by rw [← HN.out]; exact hlt)⟩
      obtain ⟨g, o, rfl, hc⟩ := HX.out i a ha
      have e1 : decide ((i : Int) < (n : Int)) = true := decide_eq_true (by omega)
      have e1' : (i : Int) < (n : Int) := by omega
      by_cases hat : t = a
      · subst hat
        have HI : Hid (t ∈ ns) := List.mem_of_getElem? ha
        clear ha
        go_wp2
        go_ret
        exact ⟨⟨_, rfl, by show _ ↔ _; exact ⟨fun _ => HI.out, fun _ => by omega⟩⟩, rfl⟩
      · have HJ2 : Hid (∀ j b, j < i + 1 → ns[j]? = some b → b ≠ t) := fun j b hj hb => by
          by_cases e : j = i
          · subst e
            rw [ha] at hb
            injection hb with hb
            subst hb
            exact fun e => hat e.symm
          · exact HJ.out j b (by omega) hb
        have hne : ¬ t.toList = a.toList := ba_ne hat
        have hne2 : (t.toList == a.toList) = false := by rw [beq_eq_false_iff_ne]; exact hne
        clear ha
        go_wp2
        go_roundw
        case rel => exact ⟨i + 1, by omega, by go_num, by trivial, HJ2⟩
        case measure => simp [intOf]; omega
    · obtain rfl : i = n := by omega
      have HI : Hid (¬ t ∈ ns) := fun h => by
        obtain ⟨j, hj⟩ := List.getElem?_of_mem h
        exact HJ.out j t (by rw [HN.out]; exact (List.getElem?_eq_some_iff.1 hj).1) hj rfl
      have e1 : decide ((i : Int) < (i : Int)) = false := decide_eq_false (by omega)
      have e1' : ¬ (i : Int) < (i : Int) := by omega
      go_wp2
      go_ret
      exact ⟨⟨_, rfl, by show _ ↔ _; exact ⟨fun h => by omega, fun h => absurd h HI.out⟩⟩, rfl⟩
set_option maxHeartbeats 4000000 in
set_option maxRecDepth 100000 in
theorem containsS_any (ns : List ByteArray) (t : ByteArray) (v : Value) (w : World) {F : Nat → Prop} (hs : IsTexts w F v ns) :
    Calls Tryd.prog 29 #[v, .string t] w fun e w' => e = .returned (.bool (inB ns t)) ∧ w = w' := by
  have K := indexS_any ns t v w hs
  obtain ⟨p, c, rfl, -, -⟩ := hs
  go_enter Tryd.func29, Tryd.ntmps29
  go_wp2_with (go_at_call 37; refine K.mono ?_; rintro e wn ⟨⟨z, rfl, HZ⟩, rfl⟩)
  go_ret
  refine ⟨?_, rfl⟩
  have h9 : decide (z ≥ 0) = inB ns t := by rw [Bool.eq_iff_iff, decide_eq_true_eq, inB_iff]; exact HZ.out
  show Ending.returned (.bool (decide (0 ≤ z))) = _
  rw [← h9]
theorem Tryd.infoStrB : (Tryd.prog.info? 9).map (fun i => (i.zero, i.size, i.bytes)) = some (some (.string ⟨#[]⟩), 1, 16) := by kernel_rfl
set_option maxHeartbeats 8000000 in
set_option maxRecDepth 100000 in
theorem lengthen_any (D : Nat → ByteArray) (hDs : ∀ k, k < 100 → (D k).size ≤ 20) (hDi : ∀ a b, a < 100 → b < 100 → nmD D a = nmD D b → a = b) (KI0 : ∀ (k : Nat) (w : World), k < 100 → Calls Tryd.prog 28 #[.int .i64 (k : Int)] w fun e w' => e = .returned (.string (D k)) ∧ w' = w)
    (ns : List ByteArray) (more : Nat) (v : Value) (w : World) {F : Nat → Prop} (hs : IsTexts w F v ns) (h99 : ns.length + more ≤ 99) :
    Calls Tryd.prog 15 #[v, .int .i64 (more : Int)] w fun e w' => ∃ o m, e = .returned o ∧ Hid ((freshT D ns m).length = more ∧ m ≤ 99) ∧ Hid (w'.ownsRow w.heap.size 9 1 o (ns.length + more) (txV (ns ++ freshT D ns m))) ∧ Hid (Below w.heap.size w w') := by
  obtain ⟨i9, hi, hz, hsz, hby⟩ := info_parts Tryd.infoStrB
  obtain ⟨v0, w0, hr0, ho0, hg0⟩ := run_append_reads (P := Tryd.prog) (w := w) w.heap.size 24 24 9 i9 _ 1 16 Tryd.underlying24 hi hz hsz hby rfl (by omega) (.slice none 0 0) 0 [] (World.ownsRow_nil _ _ _ _) v ns.length (txV ns) hs (txV_len ns) (txV_one ns) (by unfold maxLen; omega) (by omega) (Nat.le_refl _)
  have HB0 : Hid (Below w.heap.size w w0) := (Below.refl _ w).grown hg0 (Nat.le_refl _) (fun b e => by cases e)
  rw [Nat.zero_add, List.nil_append] at ho0
  obtain ⟨p0, c0, hv0⟩ := row_slice ho0
  subst hv0
  have HT : Hid (∀ w', Below w.heap.size w w' → IsTexts w' Any v ns) := fun w' hb => Reads.mono (Reads.any hs hb) (fun _ _ _ => trivial)
  have KC := (show Hid _ from fun (t : ByteArray) (w' : World) (hb : Below w.heap.size w w') => containsS_any ns t v w' (HT.out w' hb))
  have KI := (show Hid _ from KI0)
  have HDS := (show Hid _ from hDs)
  have HI9 : Hid (Tryd.prog.info? 9 = some i9 ∧ i9.zero = some (.string ⟨#[]⟩) ∧ i9.size = 1 ∧ i9.bytes = 16) := ⟨hi, hz, hsz, hby⟩
  have HK : Hid (∀ k, k ≤ 100 → k ≤ (freshT D ns k).length + ns.length) := fun k hk => by
    have h1 := fresh_hit D ns k
    have h2 := nodup_le _ ns (hit_nodup D ns hDi k hk) (fun x hx => (hit_mem D ns k x hx).1)
    omega
  have HO0 : Hid (w0.ownsRow w.heap.size 9 1 (.slice p0 ns.length c0) ns.length (txV ns)) := ho0
  obtain ⟨p, c, rfl, -, -⟩ := hs
  obtain ⟨n, hn⟩ : ∃ n, n = ns.length := ⟨_, rfl⟩
  have HN : Hid (n = ns.length) := hn
  rw [← hn] at hr0 HO0 KC h99 HK ⊢
  clear hn HT ho0 hg0 hi hz hsz hby KI0 hDs hDi
  go_enter Tryd.func15, Tryd.ntmps15
  go_upto_region 2 with (at_builtin; refine wpList_run_appB rfl _ _ 24 rfl _ _ rfl rfl hr0 ?_)
  clear hr0
  go_wp2
  go_loopw [5, 6] (fun o x wr => ∃ (k f : Nat) (po : Option Addr) (co : Nat), f ≤ more ∧ k ≤ f + n ∧ x = .int .i64 (k : Int) ∧ o = .slice po (n + f) co ∧ Hid (f = (freshT D ns k).length) ∧ Hid (wr.ownsRow w.heap.size 9 1 (.slice po (n + f) co) (n + f) (txV (ns ++ freshT D ns k))) ∧ Hid (Below w.heap.size w wr)) (fun _ x _ => n + more - (intOf x).toNat)
  case atStart => exact ⟨0, 0, p0, c0, Nat.zero_le _, Nat.zero_le _, rfl, rfl, rfl, by show World.ownsRow _ _ _ _ _ _ _; rw [show ns ++ freshT D ns 0 = ns from List.append_nil _]; exact HO0.out, HB0⟩
  case round =>
    obtain ⟨k, f, po, co, hf, hk, rfl, rfl, HF, HO, HB⟩ := hrel
    by_cases hlt : f < more
    · have hk100 : k < 100 := by omega
      have e1 : decide (((n + f : Nat) : Int) < (n : Int) + (more : Int)) = true := decide_eq_true (by omega)
      have e1' : ((n + f : Nat) : Int) < (n : Int) + (more : Int) := by omega
      have e2 : (n : Int) + (f : Int) < (n : Int) + (more : Int) := by omega
      have e3 : f < more := hlt
      have K1 := KI.out k wr hk100
      have K2 := KC.out (⟨#[95]⟩ ++ D k) wr HB.out
      have hadd := fun (w : World) => run_string_add_sum (P := Tryd.prog) (w := w) ⟨#[95]⟩ (D k) (by have := HDS.out k hk100; show 1 + _ ≤ _; omega)
      have HK1 := HK.out (k + 1) (by omega)
      cases hc : inB ns (⟨#[95]⟩ ++ D k) with
      | true =>
        rw [hc] at K2
        have hfe : freshT D ns (k + 1) = freshT D ns k := by
          show freshT D ns k ++ (if inB ns (nmD D k) = true then [] else [nmD D k]) = _
          rw [if_pos (show inB ns (nmD D k) = true from hc), List.append_nil]
        rw [hfe, ← HF.out] at HK1
        have HF2 : Hid (f = (freshT D ns (k + 1)).length) := by show _ = _; rw [hfe]; exact HF.out
        have HO2 : Hid (wr.ownsRow w.heap.size 9 1 (.slice po (n + f) co) (n + f) (txV (ns ++ freshT D ns (k + 1)))) := by show World.ownsRow _ _ _ _ _ _ _; rw [hfe]; exact HO.out
        clear hfe hc HF HO
        go_wp2_with (first
          | (go_at_call 28; refine K1.mono ?_; rintro e wn ⟨rfl, rfl⟩)
          | (go_at_call 29; refine K2.mono ?_; rintro e wn ⟨rfl, rfl⟩))
        go_roundw
        case rel => exact ⟨k + 1, f, po, co, hf, by omega, by go_num, rfl, HF2, HO2, HB⟩
        case measure => simp [intOf]; omega
      | false =>
        rw [hc] at K2
        have hfe : freshT D ns (k + 1) = freshT D ns k ++ [⟨#[95]⟩ ++ D k] := by
          show freshT D ns k ++ (if inB ns (nmD D k) = true then [] else [nmD D k]) = _
          rw [if_neg (by show ¬ inB ns (⟨#[95]⟩ ++ D k) = true; rw [hc]; simp)]
          rfl
        rw [hfe, List.length_append, ← HF.out] at HK1
        simp only [List.length_cons, List.length_nil] at HK1
        obtain ⟨s, hsn⟩ : ∃ s, s = (⟨#[95]⟩ ++ D k : ByteArray) := ⟨_, rfl⟩
        have hbs := HB.out.size
        obtain ⟨g, cap, w2, hr, hown, hgrow, hat, _⟩ := run_append_lies (P := Tryd.prog) (wr.alloc (.cells #[.string s] 9)) 24 24 w.heap.size 9 i9 _ 1 16 Tryd.underlying24 HI9.out.1 HI9.out.2.1 HI9.out.2.2.1 HI9.out.2.2.2 rfl (by omega) (.slice po (n + f) co) (n + f) (txV (ns ++ freshT D ns k)) (HO.out.alloc _) ⟨wr.heap.size, 0, none⟩ 1 1 [.string s] rfl
          (World.news_of_block (cs := #[.string s]) (t := 9) (fr := (0, 0)) (heap_alloc_new wr _)) (by intro u hu; simp at hu; subst hu; rfl) (by omega) (by unfold maxLen; omega) (by omega) (by simp; omega) (wr.heap.size + 1) (by simp)
        have HF2 : Hid (f + 1 = (freshT D ns (k + 1)).length) := by show _ = _; rw [hfe, List.length_append, ← HF.out]; rfl
        have HO2 : Hid (w2.ownsRow w.heap.size 9 1 (.slice (some ⟨g, 0, none⟩) (n + f + 1) cap) (n + f + 1) (txV (ns ++ freshT D ns (k + 1)))) := by
          show World.ownsRow _ _ _ _ _ _ _
          rw [hfe, ← List.append_assoc, ← hsn]
          have h9 := hown
          rw [show txV (ns ++ freshT D ns k) ++ [.string s] = txV (ns ++ freshT D ns k ++ [s]) by simp [txV]] at h9
          exact h9
        have HB2 : Hid (Below w.heap.size w w2) := (HB.out.alloc hbs _).grown hgrow (by simp; omega) (fun b hb => (HO.out.lt b hb).1)
        rw [← hsn] at K2 hadd
        clear hfe hc HF HO hown hgrow hat hsn
        go_wp2_with (first
          | (go_at_call 28; refine K1.mono ?_; rintro e wn ⟨rfl, rfl⟩)
          | (go_at_call 29; refine K2.mono ?_; rintro e wn ⟨rfl, rfl⟩)
          | (at_builtin; refine wpList_run_appB rfl _ _ 24 rfl _ _ rfl rfl hr ?_))
        go_roundw
        case rel => exact ⟨k + 1, f + 1, _, _, by omega, by omega, by go_num, rfl, HF2, HO2, HB2⟩
        case measure => simp [intOf]; omega
    · obtain rfl : f = more := by omega
      have e1 : decide (((n + f : Nat) : Int) < (n : Int) + (f : Int)) = false := decide_eq_false (by omega)
      have e1' : ¬ ((n + f : Nat) : Int) < (n : Int) + (f : Int) := by omega
      have e2 : ¬ (n : Int) + (f : Int) < (n : Int) + (f : Int) := by omega
      go_wp2
      go_ret
      first
        | exact ⟨_, k, rfl, ⟨HF.out.symm, by omega⟩, HO, HB⟩
        | exact ⟨_, rfl, k, ⟨HF.out.symm, by omega⟩, HO, HB⟩
end Go.Proofs.YtgpklcpmabafmaaDoor
