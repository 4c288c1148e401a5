/- empties (package first): the least set that is closed. -/
import Derived.Test.YtopokicdgdjgkaaFirE
import Derived.Test.YtopokicdgdjgkaaGb
import Derived.Test.YtopokicdgdjgkaaBinY0
import Derived.Test.YtopokicdgdjgkaaBinV
namespace Go.Proofs.Ytopokicdgdjgkaa
set_option linter.unusedVariables false
set_option linter.unusedSimpArgs false
open Go.ChangeShapes Go.WideShapes Go.ChangeAt Go.RowKit

/-- Each rule one of whose conjuncts comes to nothing has its head in. -/
def ClosE (L : List Ru) (C : Nat → Bool) : Prop := ∀ r, r ∈ L → ∀ c, c ∈ r.conj → empB C c.seq = true → C r.head.toNat = true
def LeastE (L : List Ru) (E : Nat → Bool) : Prop := ∀ C, ClosE L C → ∀ k, E k = true → C k = true
def SuppE (L : List Ru) (E : Nat → Bool) : Prop := ∀ k, E k = true → ∃ r c, r ∈ L ∧ c ∈ r.conj ∧ r.head.toNat = k ∧ empB E c.seq = true
/-- Who may come to nothing. -/
structure EmpOk (L : List Ru) (E : Nat → Bool) : Prop where
  cl : ClosE L E
  le : LeastE L E
  su : SuppE L E
theorem empB_mono {E C : Nat → Bool} (h : ∀ k, E k = true → C k = true) {l : List Sy} (he : empB E l = true) : empB C l = true := by
  unfold empB at he ⊢
  rw [List.all_eq_true] at he ⊢
  intro s hs
  have h1 := he s hs
  unfold symB at h1 ⊢
  simp only [Bool.and_eq_true] at h1 ⊢
  exact ⟨h1.1, h _ h1.2⟩
theorem trE_keep {L : List Ru} {E : Nat → Bool} (hl : LeastE L E) (hs : SuppE L E) {r : Ru} {c : Cn} (hr : r ∈ L) (hc : c ∈ r.conj) : LeastE L (trE E r.head c.seq).2 ∧ SuppE L (trE E r.head c.seq).2 := by
  unfold trE
  split
  · exact ⟨hl, hs⟩
  · rename_i hn
    have he : empB E c.seq = true := by
      cases h : empB E c.seq with
      | true => rfl
      | false => exact absurd (Or.inr h) hn
    have hm : ∀ k, E k = true → putS E r.head.toNat k = true := fun k h => by unfold putS; split <;> first | rfl | exact h
    refine ⟨fun C hC k hk => ?_, fun k hk => ?_⟩
    · by_cases e : k = r.head.toNat
      · rw [e]; exact hC r hr c hc (empB_mono (hl C hC) he)
      · have hk2 : E k = true := by simpa [putS, e] using hk
        exact hl C hC k hk2
    · by_cases e : k = r.head.toNat
      · exact ⟨r, c, hr, hc, e.symm, empB_mono hm he⟩
      · have hk2 : E k = true := by simpa [putS, e] using hk
        obtain ⟨q, d, h1, h2, h3, h4⟩ := hs k hk2
        exact ⟨q, d, h1, h2, h3, empB_mono hm h4⟩
theorem still_clos {L : List Ru} {E : Nat → Bool} (h : Still trE E L) : ClosE L E := fun r hr c hc he => by
  have h1 := h r hr c hc
  unfold trE at h1
  split at h1
  · rename_i hn
    rcases hn with hn | hn
    · exact hn
    · rw [he] at hn; cases hn
  · cases h1
/-- What a grammar that may be says of heads and symbols. -/
theorem may_headF {g : Gr} (h : mayG g = true) : ∀ r, r ∈ g.rules → 0 ≤ r.head ∧ r.head < (g.names.length : Int) := by
  have hh : ∀ (L : List Ru) (last : Int), mayHeads g.names.length last L = true → ∀ r, r ∈ L → 0 ≤ r.head ∧ r.head < (g.names.length : Int) := fun L => by
    induction L with
    | nil => intro _ _ r h; cases h
    | cons q L ih =>
      intro last h r hr
      have h1 : (isNum q.head g.names.length && ((decide (q.head = last) || decide (q.head = last + 1)) && mayHeads g.names.length q.head L)) = true := h
      simp only [Bool.and_eq_true] at h1
      rcases List.mem_cons.1 hr with e | hr
      · rw [e]
        have h2 := h1.1
        unfold isNum at h2
        simp only [Bool.and_eq_true, decide_eq_true_eq] at h2
        exact h2
      · exact ih q.head h1.2.2 r hr
  exact hh g.rules (-1) (may_partsY h).2.2.1
theorem may_symF {g : Gr} (h : mayG g = true) : ∀ r, r ∈ g.rules → ∀ c, c ∈ r.conj → ∀ s, s ∈ c.seq → symIn g.names.length s := fun r hr c hc s hs => by
  have h1 := ((may_partsY h).2.2.2.2 r hr).2 c hc
  unfold mayRow at h1
  simp only [Bool.and_eq_true, List.all_eq_true] at h1
  have h2 := h1.2 s hs
  unfold maySym at h2
  unfold symIn
  split at h2
  · rename_i e; exact Or.inl e
  · simp only [Bool.and_eq_true] at h2
    have h3 := h2.1
    unfold isNum at h3
    simp only [Bool.and_eq_true, decide_eq_true_eq] at h3
    exact Or.inr h3
/-- Memory and state of the rounds. -/
structure JE (L : List Ru) (n b y : Nat) (E : Nat → Bool) (w : World) : Prop where
  cy : w.cell? ⟨y, 0, none⟩ = some (.slice (some ⟨b, 0, none⟩) n n)
  bl : BlAt w b n E
  le : LeastE L E
  su : SuppE L E
set_option maxHeartbeats 4000000 in
set_option maxRecDepth 100000 in
theorem empties_any (g : Gr) (v1 v2 : Value) (w : World) {F : Nat → Prop} (hg : GrIs w F v1 v2 g) (hM : mayG g = true) :
    Calls Try.prog 21 #[.agg #[.int .i64 g.start, v1, v2]] w fun e w' => ∃ b E, e = .returned (.slice (some ⟨b, 0, none⟩) g.names.length g.names.length) ∧ w.heap.size ≤ b ∧ Hid (BlAt w' b g.names.length E) ∧ Hid (EmpOk g.rules E) ∧ Hid (Below w.heap.size w w') := by
  obtain ⟨p1, p2, p3, p4, p5⟩ := may_partsY hM
  have hn64 : g.names.length ≤ 64 := by unfold mayNames at p1; simp only [Bool.and_eq_true, decide_eq_true_eq] at p1; omega
  have hhd := may_headF hM
  have hsy := may_symF hM
  have HL : Hid (IsRus w F v2 g.rules) := hg.2
  obtain ⟨q1, c1, e1, -⟩ := hg.1
  obtain ⟨q2, c2, e2⟩ := lngRF hg.2
  obtain ⟨n, hn⟩ : ∃ n, n = g.names.length := ⟨_, rfl⟩
  obtain ⟨m, hm⟩ : ∃ m, m = g.rules.length := ⟨_, rfl⟩
  obtain ⟨st, hst⟩ : ∃ s, s = g.start := ⟨_, rfl⟩
  rw [← hn] at e1 hn64 hhd hsy ⊢
  rw [← hm] at e2 p4
  rw [← hst]
  subst e1 e2
  obtain ⟨L, hLL⟩ : ∃ L, L = g.rules := ⟨_, rfl⟩
  rw [← hLL] at HL p5 hhd hsy hm ⊢
  have hmk := make_bools n hn64
  obtain ⟨W2, hW2⟩ : ∃ x, x = ((w.alloc (.cells #[.int .i64 st, .slice q1 n c1, .slice q2 m c2] 27)).alloc (.cells (boolsA n (fun _ => false)) 4)).alloc (.cells #[.slice (some ⟨w.heap.size + 1, 0, none⟩) n n] 43) := ⟨_, rfl⟩
  obtain ⟨gb, hgb⟩ : ∃ b, b = w.heap.size := ⟨_, rfl⟩
  obtain ⟨b, hb⟩ : ∃ b, b = w.heap.size + 1 := ⟨_, rfl⟩
  obtain ⟨y, hy⟩ : ∃ y, y = w.heap.size + 1 + 1 := ⟨_, rfl⟩
  have s2 : W2.heap.size = w.heap.size + 3 := by rw [hW2]; simp
  have B2 : Hid (Below w.heap.size w W2) := by rw [hW2]; exact ((bel1 w _).alloc (by simp) _).alloc (by simp; omega) _
  have kg : W2.heap[gb]? = some (.cells #[.int .i64 st, .slice q1 n c1, .slice q2 m c2] 27) := by rw [hgb, hW2]; exact (heap_alloc_old _ (by simp; omega)).trans ((heap_alloc_old _ (by simp)).trans (heap_alloc_new _ _))
  have kb : BlAt W2 b n (fun _ => false) := by rw [hb, hW2]; exact (heap_alloc_old _ (by simp)).trans (new2V w _ _)
  have ky : W2.cell? ⟨y, 0, none⟩ = some (.slice (some ⟨b, 0, none⟩) n n) := by
    have h := new3V w (.cells #[.int .i64 st, .slice q1 n c1, .slice q2 m c2] 27) (.cells (boolsA n (fun _ => false)) 4) (.cells #[.slice (some ⟨w.heap.size + 1, 0, none⟩) n n] 43)
    rw [← hW2, ← hy, ← hb] at h
    exact Lib.cell_of_heap h 0
  have hyb : y ≠ b := by omega
  have HBW : Hid (w.heap.size ≤ b) := by show _ ≤ _; omega
  have hbW : b < W2.heap.size := by omega
  have KS := settleE trE (offS n) (fun s h l e => trE_no e) st (.slice q1 n c1) (.slice q2 m c2) L W2 (F := fun c => F c ∧ c < w.heap.size) b hbW ((HL.out.low fun c h1 h2 => ⟨h1, h2⟩).any B2.out) (fun c h e => by have := h.2; omega) (q1, n, c1) rfl
    (fun s r l hr e => trE_yes (by have := hhd r hr; omega) e) (by omega) (fun r hr => by have := (p5 r hr).1; omega) y (JE L n b y)
    (fun s u u' hJ hb' => ⟨(hb'.cell (p := ⟨y, 0, none⟩) (cell_in hJ.cy)).trans hJ.cy, hJ.bl.keep hb', hJ.le, hJ.su⟩)
    (fun s u r c v hr hc hJ hbut hsys => by
      have h1 := hhd r hr
      obtain ⟨k, hk⟩ : ∃ k : Nat, r.head = (k : Int) := ⟨r.head.toNat, by omega⟩
      have h2 := turnE_any s n b y k v c.seq u (by omega) hn64 hsys (hsy r hr c hc) hJ.bl hJ.cy
      have h3 := trE_keep hJ.le hJ.su hr hc
      rw [hk] at h3 ⊢
      refine h2.mono ?_
      rintro e u' ⟨h4, h5, h6⟩
      exact ⟨h4, ⟨(h6.out.cell (p := ⟨y, 0, none⟩) (cell_in hJ.cy) hyb).trans hJ.cy, h5.out, h3.1, h3.2⟩, h6⟩)
    (fun _ => false) ⟨ky, kb, fun C _ k h => (by cases h), fun k h => (by cases h)⟩
  have HN : Hid (n = g.names.length) := hn
  have k0 : W2.cell? ⟨gb, 0, none⟩ = some (.int .i64 st) := Lib.cell_of_heap kg 0
  have k1 : W2.cell? ⟨gb, 1, none⟩ = some (.slice q1 n c1) := Lib.cell_of_heap kg 1
  have k2 : W2.cell? ⟨gb, 2, none⟩ = some (.slice q2 m c2) := Lib.cell_of_heap kg 2
  have YB : Hid (y ≠ b) := hyb
  have HBL : Hid (b < W2.heap.size) := hbW
  clear hn hm hst hLL hg hM p1 p2 p3 p4 p5 hhd hsy kg kb ky hyb hbW s2 HL
  go_enter Try.func21, Try.ntmps21
  go_upto_region 2 with fail
  rw [← hW2, ← hy, ← hb, ← hgb]
  clear hW2 hgb hb hy hmk
  go_wp2_with (go_at_call 31; refine KS.mono ?_; rintro e w3 ⟨rfl, E, HS, HJ, HB⟩; have y3 : w3.cell? ⟨y, 0, none⟩ = some (.slice (some ⟨b, 0, none⟩) n n) := HJ.out.cy)
  go_ret
  have hb3 : Below w.heap.size w w3 := B2.out.trans ((HB.out.below (Nat.le_of_lt HBL.out)).mono HBW.out)
  exact ⟨b, E, rfl, HBW.out, HJ.out.bl, ⟨still_clos HS.out, HJ.out.le, HJ.out.su⟩, hb3⟩
end Go.Proofs.Ytopokicdgdjgkaa
