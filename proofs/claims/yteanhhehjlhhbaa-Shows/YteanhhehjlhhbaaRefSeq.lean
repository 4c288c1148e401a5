/- The document's seq: a conjunct's text; walked. -/
import Derived.Test.YteanhhehjlhhbaaRefRul
import Derived.BigQuiet
namespace Go.Proofs.Yteanhhehjlhhbaa
set_option linter.unusedVariables false
set_option linter.unusedSimpArgs false
open Go.ChangeShapes Go.WideShapes Go.ChangeAt Go.RowKit

theorem IsSys.celS {w : World} {F : Nat → Prop} {p : Option Addr} {n c : Nat} {l : List Sy} (h : IsSys w F (.slice p n c) l) {k : Nat} {s : Sy} (hk : l[k]? = some s) : ∃ g o, p = some ⟨g, o, none⟩ ∧ g < w.heap.size ∧ w.cell? ⟨g, o + k * 3, none⟩ = some (.int .i64 s.name) ∧ w.cell? ⟨g, o + k * 3 + 1, none⟩ = some (.int .i64 s.lo) ∧ w.cell? ⟨g, o + k * 3 + 2, none⟩ = some (.int .i64 s.hi) := by
  obtain ⟨p2, c2, e2, _, hc⟩ := h
  injection e2 with e3
  subst e3
  have hlt := (List.getElem?_eq_some_iff.1 hk).1
  obtain ⟨g, o, e, _, hg, cc, _⟩ := hc (by omega)
  obtain ⟨a0, a1, a2⟩ := sysV_at l k s hk
  exact ⟨g, o, e, hg, cc _ _ a0, by rw [Nat.add_assoc]; exact cc _ _ a1, by rw [Nat.add_assoc]; exact cc _ _ a2⟩
theorem texts_at {w : World} {F : Nat → Prop} {p : Option Addr} {n c : Nat} {l : List ByteArray} (h : IsTexts w F (.slice p n c) l) {k : Nat} {s : ByteArray} (hk : l[k]? = some s) : ∃ g o, p = some ⟨g, o, none⟩ ∧ g < w.heap.size ∧ w.cell? ⟨g, o + k, none⟩ = some (.string s) := by
  obtain ⟨p2, c2, e2, _, hc⟩ := h
  injection e2 with e3
  subst e3
  have hlt := (List.getElem?_eq_some_iff.1 hk).1
  obtain ⟨g, o, e, _, hg, cc, _⟩ := hc (by omega)
  exact ⟨g, o, e, hg, cc k _ (by unfold txV; rw [List.getElem?_map, hk]; rfl)⟩
theorem tl_empty {T : ByteArray} (h : T.data.toList = []) : T.toList.isEmpty = true := by
  cases T with | mk a => rw [ByteArray.toList_mk]; simpa using h
theorem tl_some {T : ByteArray} (h : T.data.toList ≠ []) : T.toList.isEmpty = false := by
  cases T with | mk a => rw [ByteArray.toList_mk]; cases a; simpa using h
theorem tl_app (a b : ByteArray) : (a ++ b).data.toList = a.data.toList ++ b.data.toList := by rw [ByteArray.data_append, Array.toList_append]
/-- At a symbol: the separator is there. -/
structure AtS (names : List ByteArray) (l : List Sy) (k : Nat) (T T1 : ByteArray) : Prop where
  sq : SQ names l k T.data.toList
  t1 : T1.data.toList = T.data.toList ++ sepQ k
  sz : T1.size ≤ 40 * k + 1
theorem AtS.name {names : List ByteArray} {l : List Sy} {k : Nat} {T T1 nm : ByteArray} {s : Sy} (h : AtS names l k T T1) (hs : l[k]? = some s) (hn : s.name ≠ -1) (hm : names.getD s.name.toNat ⟨#[]⟩ = nm) (hz : 1 ≤ nm.size) : SQ names l (k + 1) (T1 ++ nm).data.toList := by
  rw [tl_app, h.t1]
  have hx : symP names (psQ names (l.take k)) s = psQ names (l.take k) ++ [.inr (.inr nm)] := by unfold symP; rw [if_pos hn, hm]
  exact h.sq.other hs hx (by show nm.data.toList ≠ []; intro e; have : nm.size = 0 := by show nm.data.size = 0; rw [← Array.length_toList, e]; rfl
                             omega)
theorem AtS.rng {names : List ByteArray} {l : List Sy} {k : Nat} {T T1 A B : ByteArray} {a b : Nat} (h : AtS names l k T T1) (hs : l[k]? = some ⟨-1, (a : Int), (b : Int)⟩) (hab : a ≠ b) (hA : A.data.toList = escT 39 (byteOf (a : Int))) (hB : B.data.toList = escT 39 (byteOf (b : Int))) : SQ names l (k + 1) (T1 ++ ⟨#[39]⟩ ++ A ++ ⟨#[39, 46, 46, 39]⟩ ++ B ++ ⟨#[39]⟩).data.toList := by
  have hx : symP names (psQ names (l.take k)) ⟨-1, (a : Int), (b : Int)⟩ = psQ names (l.take k) ++ [.inr (.inl (byteOf (a : Int), byteOf (b : Int)))] := by
    unfold symP; rw [if_neg (by simp), if_pos (by show (a : Int) ≠ (b : Int); omega)]
  have := h.sq.other hs hx (by simp [partT, quoT])
  have e : (T1 ++ ⟨#[39]⟩ ++ A ++ ⟨#[39, 46, 46, 39]⟩ ++ B ++ ⟨#[39]⟩ : ByteArray).data.toList = T.data.toList ++ sepQ k ++ partT (.inr (.inl (byteOf (a : Int), byteOf (b : Int)))) := by
    rw [tl_app, tl_app, tl_app, tl_app, tl_app, h.t1, hA, hB]
    simp [partT, quoT]
  rw [e]; exact this
set_option maxHeartbeats 4000000 in
set_option maxRecDepth 100000 in
theorem seqD_any (g : Gr) (v1 v2 : Value) (l : List Sy) (sv : Value) (w : World) {F F1 : Nat → Prop} (p2 : Option Addr) (n2 c2 : Nat) (e2 : v2 = .slice p2 n2 c2) (hg : IsTexts w F1 v1 g.names) (hs : IsSys w F sv l) (hl : l.length ≤ 64) (hm : ∀ s, s ∈ l → maySym g.names.length s = true) (hn : ∀ s, s ∈ g.names → 1 ≤ s.size ∧ s.size ≤ 32) :
    Calls Try.prog 30 #[.agg #[.int .i64 g.start, v1, v2], sv] w fun e w' => e = .returned (.string (ba (seqL g.names l))) ∧ (seqL g.names l).length ≤ 3000 ∧ Hid (Below w.heap.size w w') := by
  obtain ⟨p, cp, rfl⟩ := IsSys.slc hs
  obtain ⟨p1, c1, hv1⟩ : ∃ p c, v1 = .slice p g.names.length c := by obtain ⟨p, c, e, _⟩ := hg; exact ⟨_, _, e⟩
  have HS : Hid (IsSys w F (.slice p l.length cp) l) := hs
  have HM : Hid (∀ s, s ∈ l → maySym g.names.length s = true) := hm
  have HN : Hid (∀ s, s ∈ g.names → 1 ≤ s.size ∧ s.size ≤ 32) := hn
  obtain ⟨n1, hn1⟩ : ∃ n1, n1 = g.names.length := ⟨_, rfl⟩
  rw [← hn1] at hv1 HM
  subst hv1 e2
  have HG : Hid (IsTexts w F1 (.slice p1 n1 c1) g.names) := hg
  have HN1 : Hid (n1 = g.names.length) := hn1
  obtain ⟨m, hmm⟩ : ∃ m, m = l.length := ⟨_, rfl⟩
  have HML : Hid (m = l.length) := hmm
  rw [← hmm] at HS hl ⊢
  clear hs hm hn hg hn1 hmm
  by_cases h0 : m = 0
  · subst h0
    have hnil : l = [] := List.length_eq_zero_iff.1 HML.out.symm
    have HQ : Hid (seqL g.names l = [34, 34]) := by show _ = _; rw [hnil]; rfl
    have HQ2 : Hid ((⟨#[34, 34]⟩ : ByteArray) = ba (seqL g.names l)) := by show _ = _; rw [HQ.out]; rfl
    clear hnil
    go_enter Try.func30, Try.ntmps30
    go_wp2
    go_ret
    exact ⟨by rw [← HQ2.out]; rfl, by rw [HQ.out]; decide, bel1 _ _⟩
  have h0b : ((m : Int) == 0) = false := by rw [beq_eq_false_iff_ne]; omega
  obtain ⟨X, hX⟩ : ∃ X, X = w.alloc (.cells #[.int .i64 g.start, .slice p1 n1 c1, .slice p2 n2 c2] 25) := ⟨_, rfl⟩
  have HBC : Hid (∀ w', Below X.heap.size X w' → w'.cell? ⟨w.heap.size, 1, none⟩ = some (.slice p1 n1 c1) ∧ w.heap.size < w'.heap.size) := fun w' hb => by
    have hs : X.heap.size = w.heap.size + 1 := by rw [hX]; simp
    have h1 : X.heap[w.heap.size]? = some (.cells #[.int .i64 g.start, .slice p1 n1 c1, .slice p2 n2 c2] 25) := by rw [hX]; exact heap_alloc_new w _
    exact ⟨Lib.cell_of_heap ((hb.block _ (by omega)).trans h1) 1, by have := hb.size; omega⟩
  have HX0 : Hid (Below w.heap.size w X) := by rw [hX]; exact bel1 _ _
  go_enter Try.func30, Try.ntmps30
  go_upto_region 3 with fail
  rw [← hX]
  clear hX
  go_wp2
  go_loopw [5, 6] (fun s x wr => ∃ (k : Nat) (T : ByteArray), k ≤ m ∧ x = .int .i64 k ∧ s = .string T ∧ Hid (SQ g.names l k T.data.toList) ∧ T.size ≤ 40 * k ∧ Hid (Below X.heap.size X wr)) (fun _ x _ => m - (intOf x).toNat)
  case atStart => exact ⟨0, _, Nat.zero_le _, rfl, rfl, SQ.begin _ _, by decide, Below.refl _ _⟩
  case round =>
    obtain ⟨k, T, hk, rfl, rfl, HQ, hTz, HBX⟩ := hrel
    obtain ⟨V, hV⟩ : ∃ V, V = wr := ⟨_, rfl⟩
    subst hV
    obtain ⟨x1, x4⟩ := HBC.out V HBX.out
    have HB : Hid (Below w.heap.size w V) := HX0.out.trans (HBX.out.mono HX0.out.size)
    by_cases hlt : k < m
    · obtain ⟨s, hsx⟩ : ∃ c, l[k]? = some c := ⟨_, List.getElem?_eq_getElem (by rw [← HML.out]; exact hlt)⟩
      obtain ⟨g3, o3, hp3, hg3, b0, b1, b2⟩ := (HS.out.any HB.out).celS hsx
      subst hp3
      have hms := HM.out s (List.mem_of_getElem? hsx)
      --GEN
      by_cases hk0 : k = 0
      · have HAT : Hid (AtS g.names l k T T) := ⟨HQ.out, by rw [hk0]; simp [sepQ], by omega⟩
        have hE : T.toList.isEmpty = true := tl_empty (HQ.out.nil.2 hk0)
        obtain ⟨T1, hT1⟩ : ∃ T1, T1 = T := ⟨_, rfl⟩
        have HTT : Hid (T1 = T) := hT1
        clear hT1 hk0
        go_upto_region 8 with fail
        rw [← HTT.out] at hE ⊢
        have HAT : Hid (AtS g.names l k T T1) := by rw [HTT.out]; exact HAT.out
        clear hE HTT HQ
        obtain ⟨nm, lo, hi⟩ := s
        simp only at b0 b1 b2
        unfold maySym at hms
        simp only at hms
        have hzk : T1.size ≤ 3000 := by have := HAT.out.sz; omega
        have hz1 : T1.size ≤ 40 * k + 1 := HAT.out.sz
        by_cases hnm : nm = -1
        · rw [if_pos hnm] at hms
          simp only [Bool.and_eq_true, decide_eq_true_eq] at hms
          have hms2 := hms
          clear hms
          subst hnm
          obtain ⟨a, rfl⟩ : ∃ a : Nat, lo = (a : Int) := ⟨lo.toNat, by omega⟩
          obtain ⟨b, rfl⟩ : ∃ b : Nat, hi = (b : Int) := ⟨hi.toNat, by omega⟩
          by_cases hab : a = b
          · skip
            subst hab
            have h1k : ∀ s, l[k]? = some s → oneB s = true := fun s e => by rw [hsx] at e; injection e with e; rw [← e]; unfold oneB; simp
            have H1K : Hid (∀ s, l[k]? = some s → oneB s = true) := h1k
            have HSQ0 : Hid (SQ g.names l k T.data.toList) := HAT.out.sq
            have HRQ : Hid (RQr g.names l k k T.data.toList (T1 ++ ⟨#[34]⟩).data.toList) := by
              have h9 := HAT.out.sq.run
              rw [← HAT.out.t1] at h9
              rw [tl_app]; exact h9
            have hz2 : (T1 ++ ⟨#[34]⟩).size ≤ 40 * k + 2 := by rw [ByteArray.size_append]; have : (⟨#[34]⟩ : ByteArray).size = 1 := rfl; omega
            have k1 : ¬ 9223372036854775807 < T1.size + 1 := by omega
            have nlt : ¬ (a : Int) < (a : Int) := by omega
            obtain ⟨U0, hU0⟩ : ∃ U, U = T1 ++ (⟨#[34]⟩ : ByteArray) := ⟨_, rfl⟩
            rw [← hU0] at HRQ hz2
            have HB2 : Hid (Below X.heap.size X (V.alloc (.cells #[.int .i64 (-1), .int .i64 (a : Int), .int .i64 (a : Int)] 59))) := belS HBX.out HBX.out.size _
            clear hsx h1k hms2 HAT
            go_upto_region 10 with fail
            rw [← hU0]
            clear hU0 k1
            go_loopw [5, 6] (fun s x wq => ∃ (j : Nat) (U : ByteArray), k ≤ j ∧ j ≤ m ∧ x = .int .i64 j ∧ s = .string U ∧ Hid (RQr g.names l k j T.data.toList U.data.toList) ∧ U.size ≤ 40 * k + 2 + 4 * (j - k) ∧ Hid (Below X.heap.size X wq)) (fun _ x _ => m - (intOf x).toNat)
            case atStart => exact ⟨k, U0, Nat.le_refl _, by omega, rfl, rfl, HRQ, by omega, HB2⟩
            case round =>
              obtain ⟨j, U, hkj, hj, rfl, rfl, HR, hUz, HBJ⟩ := hrel
              obtain ⟨V2, hV2⟩ : ∃ V, V = wr := ⟨_, rfl⟩
              subst hV2
              have HBW : Hid (Below w.heap.size w V2) := HX0.out.trans (HBJ.out.mono HX0.out.size)
              have u1 : ¬ 9223372036854775807 < U.size + 1 := by omega
              by_cases hlj : j < m
              · obtain ⟨t, htx⟩ : ∃ c, l[j]? = some c := ⟨_, List.getElem?_eq_getElem (by rw [← HML.out]; exact hlj)⟩
                obtain ⟨g6, o6, hp6, hg6, f0, f1, f2⟩ := (HS.out.any HBW.out).celS htx
                simp only [Option.some.injEq, Addr.mk.injEq, and_true] at hp6
                obtain ⟨rfl, rfl⟩ := hp6
                have hmt := HM.out t (List.mem_of_getElem? htx)
                obtain ⟨tn, tl, th⟩ := t
                simp only at f0 f1 f2
                unfold maySym at hmt
                simp only at hmt
                have hjl : decide ((j : Int) < (m : Int)) = true := decide_eq_true (by omega)
                have hjl2 : (j : Int) < (m : Int) := by omega
                by_cases htn : tn = -1
                · rw [if_pos htn] at hmt
                  simp only [Bool.and_eq_true, decide_eq_true_eq] at hmt
                  subst htn
                  obtain ⟨c, rfl⟩ : ∃ c : Nat, tl = (c : Int) := ⟨tl.toNat, by omega⟩
                  obtain ⟨d, rfl⟩ : ∃ d : Nat, th = (d : Int) := ⟨th.toNat, by omega⟩
                  by_cases hcd : c = d
                  · subst hcd
                    obtain ⟨C, hC⟩ : ∃ C, C = escB (UInt8.ofNat 34) c := ⟨_, rfl⟩
                    have hC1 : C.data.toList = escT 34 (byteOf (c : Int)) := by rw [hC]; exact escB_eq _ (by omega)
                    have hCz : C.size ≤ 4 := by show C.data.size ≤ 4; rw [← Array.length_toList, hC1]; exact escT_len _ _
                    have KC : Hid (∀ w', Calls Try.prog 41 #[.int .i64 (c : Int), .int .u8 34] w' fun e w'' => e = .returned (.string C) ∧ Hid (Below w'.heap.size w' w'')) := fun w' => by rw [hC]; exact shown_ref 34 c (by omega) (by omega) w'
                    have HR2 : Hid (RQr g.names l k (j + 1) T.data.toList (U ++ C).data.toList) := by
                      show RQr _ _ _ _ _ _
                      rw [tl_app, hC1]
                      exact HR.out.more HSQ0.out htx (by unfold oneB; simp) H1K.out
                    have hUz2 : (U ++ C).size ≤ 40 * k + 2 + 4 * (j + 1 - k) := by rw [ByteArray.size_append]; omega
                    have u2 : ¬ 9223372036854775807 < U.size + C.size := by omega
                    have hcc : ((c : Int) == (c : Int)) = true := beq_self_eq_true _
                    have hcd2 : decide ((c : Int) = (c : Int)) = true := decide_eq_true rfl
                    clear htx hmt hC hC1
                    go_wp2
                    go_quiet (fail)
                    go_wp2_with (go_at_call 41; refine (KC.out _).mono ?_; rintro e w5 ⟨rfl, b5⟩)
                    have HB5 : Hid (Below X.heap.size X w5) := (below_drewN HBJ.out _).trans (b5.out.mono HBJ.out.size)
                    go_roundw
                    case rel => exact ⟨j + 1, _, by omega, by omega, by go_num, rfl, HR2, hUz2, HB5⟩
                    case measure => simp [intOf]; omega
                  · have hno : oneB ⟨-1, (c : Int), (d : Int)⟩ = false := by
                      have h9 : ¬ (c : Int) = (d : Int) := by omega
                      unfold oneB; simp [h9]
                    have hcd2 : decide ((c : Int) = (d : Int)) = false := decide_eq_false (by omega)
                    have hcc : ((c : Int) == (d : Int)) = false := by rw [beq_eq_false_iff_ne]; omega
                    have hkj2 : k < j := by
                      rcases Nat.lt_or_ge k j with h | h
                      · exact h
                      · exfalso
                        have : j = k := by omega
                        subst this
                        rw [H1K.out _ htx] at hno; cases hno
                    have HSF : Hid (SQ g.names l j (U ++ ⟨#[34]⟩).data.toList) := by
                      show SQ _ _ _ _
                      rw [tl_app]
                      exact HR.out.fin HSQ0.out hkj2 (fun s e => by rw [htx] at e; injection e with e; rw [← e]; exact hno)
                    have hzF : (U ++ ⟨#[34]⟩).size ≤ 40 * j := by rw [ByteArray.size_append]; have : (⟨#[34]⟩ : ByteArray).size = 1 := rfl; omega
                    clear htx hmt hno
                    go_wp2
                    go_quiet (fail)
                    go_wp2
                    go_roundw
                    case rel => exact ⟨j, _, by omega, rfl, rfl, HSF, hzF, below_drewN HBJ.out _⟩
                    case measure => simp [intOf]; omega
                · have htp : ∃ y : Nat, tn = (y : Int) := by
                    rw [if_neg htn] at hmt
                    unfold isNum at hmt
                    simp only [Bool.and_eq_true, decide_eq_true_eq] at hmt
                    exact ⟨tn.toNat, by omega⟩
                  obtain ⟨y, rfl⟩ := htp
                  have hno : oneB ⟨(y : Int), tl, th⟩ = false := by unfold oneB; simp [htn]
                  have hyd : decide ((y : Int) < 0) = false := decide_eq_false (by omega)
                  have hyn : ¬ (y : Int) < 0 := by omega
                  have hkj2 : k < j := by
                    rcases Nat.lt_or_ge k j with h | h
                    · exact h
                    · exfalso
                      have : j = k := by omega
                      subst this
                      rw [H1K.out _ htx] at hno; cases hno
                  have HSF : Hid (SQ g.names l j (U ++ ⟨#[34]⟩).data.toList) := by
                    show SQ _ _ _ _
                    rw [tl_app]
                    exact HR.out.fin HSQ0.out hkj2 (fun s e => by rw [htx] at e; injection e with e; rw [← e]; exact hno)
                  have hzF : (U ++ ⟨#[34]⟩).size ≤ 40 * j := by rw [ByteArray.size_append]; have : (⟨#[34]⟩ : ByteArray).size = 1 := rfl; omega
                  clear htx hmt hno
                  go_wp2
                  go_quiet (fail)
                  go_wp2
                  go_roundw
                  case rel => exact ⟨j, _, by omega, rfl, rfl, HSF, hzF, below_drewN HBJ.out _⟩
                  case measure => simp [intOf]; omega
              · obtain rfl : j = m := by omega
                have hjl : decide ((j : Int) < (j : Int)) = false := decide_eq_false (by omega)
                have hkj2 : k < j := hlt
                have HSF : Hid (SQ g.names l j (U ++ ⟨#[34]⟩).data.toList) := by
                  show SQ _ _ _ _
                  rw [tl_app]
                  exact HR.out.fin HSQ0.out hkj2 (fun s e => by rw [List.getElem?_eq_none (by rw [← HML.out]; exact Nat.le_refl _)] at e; cases e)
                have hzF : (U ++ ⟨#[34]⟩).size ≤ 40 * j := by rw [ByteArray.size_append]; have : (⟨#[34]⟩ : ByteArray).size = 1 := rfl; omega
                go_wp2
                go_quiet (fail)
                go_wp2
                go_roundw
                case rel => exact ⟨j, _, Nat.le_refl _, rfl, rfl, HSF, hzF, below_drewN HBJ.out _⟩
                case measure => simp [intOf]; omega
          · skip
            have hlt2 : (a : Int) < (b : Int) := by omega
            obtain ⟨A, hA⟩ : ∃ A, A = escB (UInt8.ofNat 39) a := ⟨_, rfl⟩
            obtain ⟨B, hB⟩ : ∃ B, B = escB (UInt8.ofNat 39) b := ⟨_, rfl⟩
            have hA1 : A.data.toList = escT 39 (byteOf (a : Int)) := by rw [hA]; exact escB_eq _ (by omega)
            have hB1 : B.data.toList = escT 39 (byteOf (b : Int)) := by rw [hB]; exact escB_eq _ (by omega)
            have hAz : A.size ≤ 4 := by show A.data.size ≤ 4; rw [← Array.length_toList, hA1]; exact escT_len _ _
            have hBz : B.size ≤ 4 := by show B.data.size ≤ 4; rw [← Array.length_toList, hB1]; exact escT_len _ _
            have HSQ : Hid (SQ g.names l (k + 1) (T1 ++ ⟨#[39]⟩ ++ A ++ ⟨#[39, 46, 46, 39]⟩ ++ B ++ ⟨#[39]⟩).data.toList) := HAT.out.rng hsx hab hA1 hB1
            have hz2 : (T1 ++ ⟨#[39]⟩ ++ A ++ ⟨#[39, 46, 46, 39]⟩ ++ B ++ ⟨#[39]⟩).size ≤ 40 * (k + 1) := by
              simp only [ByteArray.size_append]
              have e1 : (⟨#[39]⟩ : ByteArray).size = 1 := rfl
              have e2 : (⟨#[39, 46, 46, 39]⟩ : ByteArray).size = 4 := rfl
              omega
            have KA : Hid (∀ w', Calls Try.prog 41 #[.int .i64 (a : Int), .int .u8 39] w' fun e w'' => e = .returned (.string A) ∧ Hid (Below w'.heap.size w' w'')) := fun w' => by rw [hA]; exact shown_ref 39 a (by omega) (by omega) w'
            have KB : Hid (∀ w', Calls Try.prog 41 #[.int .i64 (b : Int), .int .u8 39] w' fun e w'' => e = .returned (.string B) ∧ Hid (Below w'.heap.size w' w'')) := fun w' => by rw [hB]; exact shown_ref 39 b (by omega) (by omega) w'
            obtain ⟨Y, hY⟩ : ∃ Y, Y = V.alloc (.cells #[.int .i64 (-1), .int .i64 (a : Int), .int .i64 (b : Int)] 59) := ⟨_, rfl⟩
            have hYb : Below V.heap.size V Y := by rw [hY]; exact bel1 _ _
            have y1 : Y.cell? ⟨V.heap.size, 1, none⟩ = some (.int .i64 (a : Int)) := by rw [hY]; exact World.cell?_alloc_at _ _ _ _ rfl
            have y2 : Y.cell? ⟨V.heap.size, 2, none⟩ = some (.int .i64 (b : Int)) := by rw [hY]; exact World.cell?_alloc_at _ _ _ _ rfl
            have hzY : V.heap.size < Y.heap.size := by rw [hY]; simp
            have HSS : Hid (∀ w', Below Y.heap.size Y w' → Below Y.heap.size Y w' ∧ w'.cell? ⟨V.heap.size, 1, none⟩ = some (.int .i64 (a : Int)) ∧ w'.cell? ⟨V.heap.size, 2, none⟩ = some (.int .i64 (b : Int))) := fun w' h => ⟨h, (h.cell (p := ⟨_, _, none⟩) hzY).trans y1, (h.cell (p := ⟨_, _, none⟩) hzY).trans y2⟩
            have HBYX : Hid (Below X.heap.size X Y) := HBX.out.trans (hYb.mono HBX.out.size)
            have s1 : (⟨#[39]⟩ : ByteArray).size = 1 := rfl
            have s4 : (⟨#[39, 46, 46, 39]⟩ : ByteArray).size = 4 := rfl
            have r1 := fun (w : World) => run_string_add_sum (P := Try.prog) (w := w) T1 ⟨#[39]⟩ (by rw [s1]; omega)
            have r2 := fun (w : World) => run_string_add_sum (P := Try.prog) (w := w) (T1 ++ ⟨#[39]⟩) A (by rw [ByteArray.size_append, s1]; omega)
            have r3 := fun (w : World) => run_string_add_sum (P := Try.prog) (w := w) (T1 ++ ⟨#[39]⟩ ++ A) ⟨#[39, 46, 46, 39]⟩ (by rw [ByteArray.size_append, ByteArray.size_append, s1, s4]; omega)
            have r4 := fun (w : World) => run_string_add_sum (P := Try.prog) (w := w) (T1 ++ ⟨#[39]⟩ ++ A ++ ⟨#[39, 46, 46, 39]⟩) B (by rw [ByteArray.size_append, ByteArray.size_append, ByteArray.size_append, s1, s4]; omega)
            have r5 := fun (w : World) => run_string_add_sum (P := Try.prog) (w := w) (T1 ++ ⟨#[39]⟩ ++ A ++ ⟨#[39, 46, 46, 39]⟩ ++ B) ⟨#[39]⟩ (by rw [ByteArray.size_append, ByteArray.size_append, ByteArray.size_append, ByteArray.size_append, s1, s4]; omega)
            have k1 : ¬ 9223372036854775807 < T1.size + 1 := by omega
            have k2 : ¬ 9223372036854775807 < T1.size + 1 + A.size := by omega
            have k3 : ¬ 9223372036854775807 < T1.size + 1 + A.size + 4 := by omega
            have k4 : ¬ 9223372036854775807 < T1.size + 1 + A.size + 4 + B.size := by omega
            have k5 : ¬ 9223372036854775807 < T1.size + 1 + A.size + 4 + B.size + 1 := by omega
            obtain ⟨nb, hnb⟩ : ∃ nb, nb = V.heap.size := ⟨_, rfl⟩
            rw [← hnb] at HSS
            clear hsx hms2 hA hB hA1 hB1 hab y1 y2 hzY hYb hAz hBz
            go_upto_region 18 with fail
            rw [← hY, ← hnb]
            clear hY hnb
            go_region_held3 (fun w' => Below Y.heap.size Y w' ∧ w'.cell? ⟨nb, 1, none⟩ = some (.int .i64 (a : Int)) ∧ w'.cell? ⟨nb, 2, none⟩ = some (.int .i64 (b : Int)))
              ((refine HSS.out _ ?_; (repeat' (first | with_reducible assumption | with_reducible exact Below.refl _ _ | with_reducible apply Below.drew))))
              ((go_at_call 41; first
                | (have hh := b6; clear hh; refine (KB.out _).mono ?_; rintro e w7 ⟨rfl, b7⟩; have b8 : Below Y.heap.size Y w7 := b6.trans (b7.out.mono b6.size))
                | (refine (KA.out _).mono ?_; rintro e w5 ⟨rfl, b5⟩; have b6 : Below Y.heap.size Y w5 := Below.trans (b := Y.drew) (Below.refl _ _).drew b5.out)))
            have HB8 : Hid (Below X.heap.size X w7) := HBYX.out.trans (b8.mono HBYX.out.size)
            go_wp2
            go_roundw
            case rel => exact ⟨k + 1, _, by omega, by go_num, rfl, HSQ, hz2, HB8⟩
            case measure => simp [intOf]; omega
        · rw [if_neg hnm] at hms
          unfold isNum at hms
          simp only [Bool.and_eq_true, decide_eq_true_eq] at hms
          have hms2 := hms.1
          clear hms
          obtain ⟨y, rfl⟩ : ∃ y : Nat, nm = (y : Int) := ⟨nm.toNat, by have := hms2; omega⟩
          have hy : y < n1 := by have := hms2; omega
          obtain ⟨nx, hnx⟩ : ∃ nx, g.names[y]? = some nx := ⟨_, List.getElem?_eq_getElem (by rw [← HN1.out]; exact hy)⟩
          obtain ⟨hz9, hz10⟩ := HN.out nx (List.mem_of_getElem? hnx)
          obtain ⟨g5, o5, hp5, hg5, d0⟩ := texts_at (HG.out.any HB.out) hnx
          subst hp5
          have HSQ : Hid (SQ g.names l (k + 1) (T1 ++ nx).data.toList) := HAT.out.name hsx (by show (y : Int) ≠ -1; omega) (by show g.names.getD ((y : Int).toNat) _ = _; rw [Int.toNat_natCast, List.getD_eq_getElem?_getD, hnx]; rfl) hz9
          have k1 : ¬ 9223372036854775807 < T1.size + nx.size := by omega
          have k2 : (T1 ++ nx).size ≤ 40 * (k + 1) := by rw [ByteArray.size_append]; omega
          have k3 : (0 : Int) ≤ (y : Int) := by omega
          have HB2 : Hid (Below X.heap.size X (V.alloc (.cells #[.int .i64 (y : Int), .int .i64 lo, .int .i64 hi] 59))) := belS HBX.out HBX.out.size _
          clear hsx hms2 hnx hz9 hz10 hnm
          go_wp2
          go_roundw
          case rel => exact ⟨k + 1, _, by omega, by go_num, rfl, HSQ, k2, HB2⟩
          case measure => simp [intOf]; omega
      · have hE : T.toList.isEmpty = false := tl_some (fun e => hk0 (HQ.out.nil.1 e))
        have q1 : ¬ 9223372036854775807 < T.size + 1 := by omega
        have HAT0 : Hid (AtS g.names l k T (T ++ ⟨#[32]⟩)) := ⟨HQ.out, by rw [tl_app]; simp [sepQ, hk0], by rw [ByteArray.size_append]; have : (⟨#[32]⟩ : ByteArray).size = 1 := rfl; omega⟩
        obtain ⟨T1, hT1⟩ : ∃ T1, T1 = T ++ (⟨#[32]⟩ : ByteArray) := ⟨_, rfl⟩
        have HAT : Hid (AtS g.names l k T T1) := by rw [hT1]; exact HAT0.out
        clear HAT0
        go_upto_region 8 with fail
        rw [← hT1]
        clear hT1 hE q1 HQ
        obtain ⟨nm, lo, hi⟩ := s
        simp only at b0 b1 b2
        unfold maySym at hms
        simp only at hms
        have hzk : T1.size ≤ 3000 := by have := HAT.out.sz; omega
        have hz1 : T1.size ≤ 40 * k + 1 := HAT.out.sz
        by_cases hnm : nm = -1
        · rw [if_pos hnm] at hms
          simp only [Bool.and_eq_true, decide_eq_true_eq] at hms
          have hms2 := hms
          clear hms
          subst hnm
          obtain ⟨a, rfl⟩ : ∃ a : Nat, lo = (a : Int) := ⟨lo.toNat, by omega⟩
          obtain ⟨b, rfl⟩ : ∃ b : Nat, hi = (b : Int) := ⟨hi.toNat, by omega⟩
          by_cases hab : a = b
          · skip
            subst hab
            have h1k : ∀ s, l[k]? = some s → oneB s = true := fun s e => by rw [hsx] at e; injection e with e; rw [← e]; unfold oneB; simp
            have H1K : Hid (∀ s, l[k]? = some s → oneB s = true) := h1k
            have HSQ0 : Hid (SQ g.names l k T.data.toList) := HAT.out.sq
            have HRQ : Hid (RQr g.names l k k T.data.toList (T1 ++ ⟨#[34]⟩).data.toList) := by
              have h9 := HAT.out.sq.run
              rw [← HAT.out.t1] at h9
              rw [tl_app]; exact h9
            have hz2 : (T1 ++ ⟨#[34]⟩).size ≤ 40 * k + 2 := by rw [ByteArray.size_append]; have : (⟨#[34]⟩ : ByteArray).size = 1 := rfl; omega
            have k1 : ¬ 9223372036854775807 < T1.size + 1 := by omega
            have nlt : ¬ (a : Int) < (a : Int) := by omega
            obtain ⟨U0, hU0⟩ : ∃ U, U = T1 ++ (⟨#[34]⟩ : ByteArray) := ⟨_, rfl⟩
            rw [← hU0] at HRQ hz2
            have HB2 : Hid (Below X.heap.size X (V.alloc (.cells #[.int .i64 (-1), .int .i64 (a : Int), .int .i64 (a : Int)] 59))) := belS HBX.out HBX.out.size _
            clear hsx h1k hms2 HAT
            go_upto_region 10 with fail
            rw [← hU0]
            clear hU0 k1
            go_loopw [5, 6] (fun s x wq => ∃ (j : Nat) (U : ByteArray), k ≤ j ∧ j ≤ m ∧ x = .int .i64 j ∧ s = .string U ∧ Hid (RQr g.names l k j T.data.toList U.data.toList) ∧ U.size ≤ 40 * k + 2 + 4 * (j - k) ∧ Hid (Below X.heap.size X wq)) (fun _ x _ => m - (intOf x).toNat)
            case atStart => exact ⟨k, U0, Nat.le_refl _, by omega, rfl, rfl, HRQ, by omega, HB2⟩
            case round =>
              obtain ⟨j, U, hkj, hj, rfl, rfl, HR, hUz, HBJ⟩ := hrel
              obtain ⟨V2, hV2⟩ : ∃ V, V = wr := ⟨_, rfl⟩
              subst hV2
              have HBW : Hid (Below w.heap.size w V2) := HX0.out.trans (HBJ.out.mono HX0.out.size)
              have u1 : ¬ 9223372036854775807 < U.size + 1 := by omega
              by_cases hlj : j < m
              · obtain ⟨t, htx⟩ : ∃ c, l[j]? = some c := ⟨_, List.getElem?_eq_getElem (by rw [← HML.out]; exact hlj)⟩
                obtain ⟨g6, o6, hp6, hg6, f0, f1, f2⟩ := (HS.out.any HBW.out).celS htx
                simp only [Option.some.injEq, Addr.mk.injEq, and_true] at hp6
                obtain ⟨rfl, rfl⟩ := hp6
                have hmt := HM.out t (List.mem_of_getElem? htx)
                obtain ⟨tn, tl, th⟩ := t
                simp only at f0 f1 f2
                unfold maySym at hmt
                simp only at hmt
                have hjl : decide ((j : Int) < (m : Int)) = true := decide_eq_true (by omega)
                have hjl2 : (j : Int) < (m : Int) := by omega
                by_cases htn : tn = -1
                · rw [if_pos htn] at hmt
                  simp only [Bool.and_eq_true, decide_eq_true_eq] at hmt
                  subst htn
                  obtain ⟨c, rfl⟩ : ∃ c : Nat, tl = (c : Int) := ⟨tl.toNat, by omega⟩
                  obtain ⟨d, rfl⟩ : ∃ d : Nat, th = (d : Int) := ⟨th.toNat, by omega⟩
                  by_cases hcd : c = d
                  · subst hcd
                    obtain ⟨C, hC⟩ : ∃ C, C = escB (UInt8.ofNat 34) c := ⟨_, rfl⟩
                    have hC1 : C.data.toList = escT 34 (byteOf (c : Int)) := by rw [hC]; exact escB_eq _ (by omega)
                    have hCz : C.size ≤ 4 := by show C.data.size ≤ 4; rw [← Array.length_toList, hC1]; exact escT_len _ _
                    have KC : Hid (∀ w', Calls Try.prog 41 #[.int .i64 (c : Int), .int .u8 34] w' fun e w'' => e = .returned (.string C) ∧ Hid (Below w'.heap.size w' w'')) := fun w' => by rw [hC]; exact shown_ref 34 c (by omega) (by omega) w'
                    have HR2 : Hid (RQr g.names l k (j + 1) T.data.toList (U ++ C).data.toList) := by
                      show RQr _ _ _ _ _ _
                      rw [tl_app, hC1]
                      exact HR.out.more HSQ0.out htx (by unfold oneB; simp) H1K.out
                    have hUz2 : (U ++ C).size ≤ 40 * k + 2 + 4 * (j + 1 - k) := by rw [ByteArray.size_append]; omega
                    have u2 : ¬ 9223372036854775807 < U.size + C.size := by omega
                    have hcc : ((c : Int) == (c : Int)) = true := beq_self_eq_true _
                    have hcd2 : decide ((c : Int) = (c : Int)) = true := decide_eq_true rfl
                    clear htx hmt hC hC1
                    go_wp2
                    go_quiet (fail)
                    go_wp2_with (go_at_call 41; refine (KC.out _).mono ?_; rintro e w5 ⟨rfl, b5⟩)
                    have HB5 : Hid (Below X.heap.size X w5) := (below_drewN HBJ.out _).trans (b5.out.mono HBJ.out.size)
                    go_roundw
                    case rel => exact ⟨j + 1, _, by omega, by omega, by go_num, rfl, HR2, hUz2, HB5⟩
                    case measure => simp [intOf]; omega
                  · have hno : oneB ⟨-1, (c : Int), (d : Int)⟩ = false := by
                      have h9 : ¬ (c : Int) = (d : Int) := by omega
                      unfold oneB; simp [h9]
                    have hcd2 : decide ((c : Int) = (d : Int)) = false := decide_eq_false (by omega)
                    have hcc : ((c : Int) == (d : Int)) = false := by rw [beq_eq_false_iff_ne]; omega
                    have hkj2 : k < j := by
                      rcases Nat.lt_or_ge k j with h | h
                      · exact h
                      · exfalso
                        have : j = k := by omega
                        subst this
                        rw [H1K.out _ htx] at hno; cases hno
                    have HSF : Hid (SQ g.names l j (U ++ ⟨#[34]⟩).data.toList) := by
                      show SQ _ _ _ _
                      rw [tl_app]
                      exact HR.out.fin HSQ0.out hkj2 (fun s e => by rw [htx] at e; injection e with e; rw [← e]; exact hno)
                    have hzF : (U ++ ⟨#[34]⟩).size ≤ 40 * j := by rw [ByteArray.size_append]; have : (⟨#[34]⟩ : ByteArray).size = 1 := rfl; omega
                    clear htx hmt hno
                    go_wp2
                    go_quiet (fail)
                    go_wp2
                    go_roundw
                    case rel => exact ⟨j, _, by omega, rfl, rfl, HSF, hzF, below_drewN HBJ.out _⟩
                    case measure => simp [intOf]; omega
                · have htp : ∃ y : Nat, tn = (y : Int) := by
                    rw [if_neg htn] at hmt
                    unfold isNum at hmt
                    simp only [Bool.and_eq_true, decide_eq_true_eq] at hmt
                    exact ⟨tn.toNat, by omega⟩
                  obtain ⟨y, rfl⟩ := htp
                  have hno : oneB ⟨(y : Int), tl, th⟩ = false := by unfold oneB; simp [htn]
                  have hyd : decide ((y : Int) < 0) = false := decide_eq_false (by omega)
                  have hyn : ¬ (y : Int) < 0 := by omega
                  have hkj2 : k < j := by
                    rcases Nat.lt_or_ge k j with h | h
                    · exact h
                    · exfalso
                      have : j = k := by omega
                      subst this
                      rw [H1K.out _ htx] at hno; cases hno
                  have HSF : Hid (SQ g.names l j (U ++ ⟨#[34]⟩).data.toList) := by
                    show SQ _ _ _ _
                    rw [tl_app]
                    exact HR.out.fin HSQ0.out hkj2 (fun s e => by rw [htx] at e; injection e with e; rw [← e]; exact hno)
                  have hzF : (U ++ ⟨#[34]⟩).size ≤ 40 * j := by rw [ByteArray.size_append]; have : (⟨#[34]⟩ : ByteArray).size = 1 := rfl; omega
                  clear htx hmt hno
                  go_wp2
                  go_quiet (fail)
                  go_wp2
                  go_roundw
                  case rel => exact ⟨j, _, by omega, rfl, rfl, HSF, hzF, below_drewN HBJ.out _⟩
                  case measure => simp [intOf]; omega
              · obtain rfl : j = m := by omega
                have hjl : decide ((j : Int) < (j : Int)) = false := decide_eq_false (by omega)
                have hkj2 : k < j := hlt
                have HSF : Hid (SQ g.names l j (U ++ ⟨#[34]⟩).data.toList) := by
                  show SQ _ _ _ _
                  rw [tl_app]
                  exact HR.out.fin HSQ0.out hkj2 (fun s e => by rw [List.getElem?_eq_none (by rw [← HML.out]; exact Nat.le_refl _)] at e; cases e)
                have hzF : (U ++ ⟨#[34]⟩).size ≤ 40 * j := by rw [ByteArray.size_append]; have : (⟨#[34]⟩ : ByteArray).size = 1 := rfl; omega
                go_wp2
                go_quiet (fail)
                go_wp2
                go_roundw
                case rel => exact ⟨j, _, Nat.le_refl _, rfl, rfl, HSF, hzF, below_drewN HBJ.out _⟩
                case measure => simp [intOf]; omega
          · skip
            have hlt2 : (a : Int) < (b : Int) := by omega
            obtain ⟨A, hA⟩ : ∃ A, A = escB (UInt8.ofNat 39) a := ⟨_, rfl⟩
            obtain ⟨B, hB⟩ : ∃ B, B = escB (UInt8.ofNat 39) b := ⟨_, rfl⟩
            have hA1 : A.data.toList = escT 39 (byteOf (a : Int)) := by rw [hA]; exact escB_eq _ (by omega)
            have hB1 : B.data.toList = escT 39 (byteOf (b : Int)) := by rw [hB]; exact escB_eq _ (by omega)
            have hAz : A.size ≤ 4 := by show A.data.size ≤ 4; rw [← Array.length_toList, hA1]; exact escT_len _ _
            have hBz : B.size ≤ 4 := by show B.data.size ≤ 4; rw [← Array.length_toList, hB1]; exact escT_len _ _
            have HSQ : Hid (SQ g.names l (k + 1) (T1 ++ ⟨#[39]⟩ ++ A ++ ⟨#[39, 46, 46, 39]⟩ ++ B ++ ⟨#[39]⟩).data.toList) := HAT.out.rng hsx hab hA1 hB1
            have hz2 : (T1 ++ ⟨#[39]⟩ ++ A ++ ⟨#[39, 46, 46, 39]⟩ ++ B ++ ⟨#[39]⟩).size ≤ 40 * (k + 1) := by
              simp only [ByteArray.size_append]
              have e1 : (⟨#[39]⟩ : ByteArray).size = 1 := rfl
              have e2 : (⟨#[39, 46, 46, 39]⟩ : ByteArray).size = 4 := rfl
              omega
            have KA : Hid (∀ w', Calls Try.prog 41 #[.int .i64 (a : Int), .int .u8 39] w' fun e w'' => e = .returned (.string A) ∧ Hid (Below w'.heap.size w' w'')) := fun w' => by rw [hA]; exact shown_ref 39 a (by omega) (by omega) w'
            have KB : Hid (∀ w', Calls Try.prog 41 #[.int .i64 (b : Int), .int .u8 39] w' fun e w'' => e = .returned (.string B) ∧ Hid (Below w'.heap.size w' w'')) := fun w' => by rw [hB]; exact shown_ref 39 b (by omega) (by omega) w'
            obtain ⟨Y, hY⟩ : ∃ Y, Y = V.alloc (.cells #[.int .i64 (-1), .int .i64 (a : Int), .int .i64 (b : Int)] 59) := ⟨_, rfl⟩
            have hYb : Below V.heap.size V Y := by rw [hY]; exact bel1 _ _
            have y1 : Y.cell? ⟨V.heap.size, 1, none⟩ = some (.int .i64 (a : Int)) := by rw [hY]; exact World.cell?_alloc_at _ _ _ _ rfl
            have y2 : Y.cell? ⟨V.heap.size, 2, none⟩ = some (.int .i64 (b : Int)) := by rw [hY]; exact World.cell?_alloc_at _ _ _ _ rfl
            have hzY : V.heap.size < Y.heap.size := by rw [hY]; simp
            have HSS : Hid (∀ w', Below Y.heap.size Y w' → Below Y.heap.size Y w' ∧ w'.cell? ⟨V.heap.size, 1, none⟩ = some (.int .i64 (a : Int)) ∧ w'.cell? ⟨V.heap.size, 2, none⟩ = some (.int .i64 (b : Int))) := fun w' h => ⟨h, (h.cell (p := ⟨_, _, none⟩) hzY).trans y1, (h.cell (p := ⟨_, _, none⟩) hzY).trans y2⟩
            have HBYX : Hid (Below X.heap.size X Y) := HBX.out.trans (hYb.mono HBX.out.size)
            have s1 : (⟨#[39]⟩ : ByteArray).size = 1 := rfl
            have s4 : (⟨#[39, 46, 46, 39]⟩ : ByteArray).size = 4 := rfl
            have r1 := fun (w : World) => run_string_add_sum (P := Try.prog) (w := w) T1 ⟨#[39]⟩ (by rw [s1]; omega)
            have r2 := fun (w : World) => run_string_add_sum (P := Try.prog) (w := w) (T1 ++ ⟨#[39]⟩) A (by rw [ByteArray.size_append, s1]; omega)
            have r3 := fun (w : World) => run_string_add_sum (P := Try.prog) (w := w) (T1 ++ ⟨#[39]⟩ ++ A) ⟨#[39, 46, 46, 39]⟩ (by rw [ByteArray.size_append, ByteArray.size_append, s1, s4]; omega)
            have r4 := fun (w : World) => run_string_add_sum (P := Try.prog) (w := w) (T1 ++ ⟨#[39]⟩ ++ A ++ ⟨#[39, 46, 46, 39]⟩) B (by rw [ByteArray.size_append, ByteArray.size_append, ByteArray.size_append, s1, s4]; omega)
            have r5 := fun (w : World) => run_string_add_sum (P := Try.prog) (w := w) (T1 ++ ⟨#[39]⟩ ++ A ++ ⟨#[39, 46, 46, 39]⟩ ++ B) ⟨#[39]⟩ (by rw [ByteArray.size_append, ByteArray.size_append, ByteArray.size_append, ByteArray.size_append, s1, s4]; omega)
            have k1 : ¬ 9223372036854775807 < T1.size + 1 := by omega
            have k2 : ¬ 9223372036854775807 < T1.size + 1 + A.size := by omega
            have k3 : ¬ 9223372036854775807 < T1.size + 1 + A.size + 4 := by omega
            have k4 : ¬ 9223372036854775807 < T1.size + 1 + A.size + 4 + B.size := by omega
            have k5 : ¬ 9223372036854775807 < T1.size + 1 + A.size + 4 + B.size + 1 := by omega
            obtain ⟨nb, hnb⟩ : ∃ nb, nb = V.heap.size := ⟨_, rfl⟩
            rw [← hnb] at HSS
            clear hsx hms2 hA hB hA1 hB1 hab y1 y2 hzY hYb hAz hBz
            go_upto_region 18 with fail
            rw [← hY, ← hnb]
            clear hY hnb
            go_region_held3 (fun w' => Below Y.heap.size Y w' ∧ w'.cell? ⟨nb, 1, none⟩ = some (.int .i64 (a : Int)) ∧ w'.cell? ⟨nb, 2, none⟩ = some (.int .i64 (b : Int)))
              ((refine HSS.out _ ?_; (repeat' (first | with_reducible assumption | with_reducible exact Below.refl _ _ | with_reducible apply Below.drew))))
              ((go_at_call 41; first
                | (have hh := b6; clear hh; refine (KB.out _).mono ?_; rintro e w7 ⟨rfl, b7⟩; have b8 : Below Y.heap.size Y w7 := b6.trans (b7.out.mono b6.size))
                | (refine (KA.out _).mono ?_; rintro e w5 ⟨rfl, b5⟩; have b6 : Below Y.heap.size Y w5 := Below.trans (b := Y.drew) (Below.refl _ _).drew b5.out)))
            have HB8 : Hid (Below X.heap.size X w7) := HBYX.out.trans (b8.mono HBYX.out.size)
            go_wp2
            go_roundw
            case rel => exact ⟨k + 1, _, by omega, by go_num, rfl, HSQ, hz2, HB8⟩
            case measure => simp [intOf]; omega
        · rw [if_neg hnm] at hms
          unfold isNum at hms
          simp only [Bool.and_eq_true, decide_eq_true_eq] at hms
          have hms2 := hms.1
          clear hms
          obtain ⟨y, rfl⟩ : ∃ y : Nat, nm = (y : Int) := ⟨nm.toNat, by have := hms2; omega⟩
          have hy : y < n1 := by have := hms2; omega
          obtain ⟨nx, hnx⟩ : ∃ nx, g.names[y]? = some nx := ⟨_, List.getElem?_eq_getElem (by rw [← HN1.out]; exact hy)⟩
          obtain ⟨hz9, hz10⟩ := HN.out nx (List.mem_of_getElem? hnx)
          obtain ⟨g5, o5, hp5, hg5, d0⟩ := texts_at (HG.out.any HB.out) hnx
          subst hp5
          have HSQ : Hid (SQ g.names l (k + 1) (T1 ++ nx).data.toList) := HAT.out.name hsx (by show (y : Int) ≠ -1; omega) (by show g.names.getD ((y : Int).toNat) _ = _; rw [Int.toNat_natCast, List.getD_eq_getElem?_getD, hnx]; rfl) hz9
          have k1 : ¬ 9223372036854775807 < T1.size + nx.size := by omega
          have k2 : (T1 ++ nx).size ≤ 40 * (k + 1) := by rw [ByteArray.size_append]; omega
          have k3 : (0 : Int) ≤ (y : Int) := by omega
          have HB2 : Hid (Below X.heap.size X (V.alloc (.cells #[.int .i64 (y : Int), .int .i64 lo, .int .i64 hi] 59))) := belS HBX.out HBX.out.size _
          clear hsx hms2 hnx hz9 hz10 hnm
          go_wp2
          go_roundw
          case rel => exact ⟨k + 1, _, by omega, by go_num, rfl, HSQ, k2, HB2⟩
          case measure => simp [intOf]; omega
    · obtain rfl : k = m := by omega
      have hne : l ≠ [] := fun e => by have := HML.out; rw [e] at this; exact h0 this
      have HF : Hid (T.data.toList = seqL g.names l) := by
        have h9 := HQ.out
        rw [HML.out] at h9
        exact h9.fin hne
      have HE : Hid (T = ba (seqL g.names l)) := ba_tl _ _ HF.out
      have hlen : (seqL g.names l).length ≤ 3000 := by rw [← HF.out, Array.length_toList]; show T.size ≤ 3000; omega
      clear hne
      go_wp2
      go_ret
      exact ⟨by rw [← HE.out]; rfl, hlen, HB⟩
end Go.Proofs.Yteanhhehjlhhbaa
