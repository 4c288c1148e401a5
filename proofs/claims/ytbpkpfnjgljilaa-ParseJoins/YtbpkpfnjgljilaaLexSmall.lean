/- What the program's small functions over bytes do. -/
import Derived.Test.YtbpkpfnjgljilaaRows
import Derived.Test.YtbpkpfnjgljilaaLexMem
import Derived.ProofKit
import Derived.OpenShut
import Derived.WalkLawsBesides
import Derived.Deep.QuietTactic
import Derived.BigQuiet
namespace Go.Proofs.Ytbpkpfnjgljilaa
set_option linter.unusedVariables false
open Go.ChangeShapes Go.WideShapes Go.ChangeAt Go.RowKit

theorem rbool {a b : Bool} (h : a = b) : Ending.returned (.bool a) = .returned (.bool b) := by rw [h]
theorem rint {k : IntKind} {a b : Int} (h : a = b) : Ending.returned (.int k a) = .returned (.int k b) := by rw [h]

def blkB (c : Int) : Bool := decide (c = 9) || decide (c = 10) || decide (c = 13) || decide (c = 32)
theorem blkB_iff (c : Int) : blkB c = true ↔ (c = 9 ∨ c = 10 ∨ c = 13 ∨ c = 32) := by simp [blkB, or_assoc]

theorem blank_dev (c : Int) (w : World) : Calls Try.prog 34 #[.int .i64 c] w fun e w' => e = .returned (.bool (blkB c)) ∧ w = w' := by
  by_cases a1 : c = 9
  · subst a1
    go_enter Try.func34, Try.ntmps34
    go_wp2
    all_goals go_ret
    all_goals exact ⟨rbool rfl, rfl⟩
  · by_cases a2 : c = 10
    · subst a2
      go_enter Try.func34, Try.ntmps34
      go_wp2
      all_goals go_ret
      all_goals exact ⟨rbool rfl, rfl⟩
    · by_cases a3 : c = 13
      · subst a3
        go_enter Try.func34, Try.ntmps34
        go_wp2
        all_goals go_ret
        all_goals exact ⟨rbool rfl, rfl⟩
      · have b1 : (c == 9) = false := by simpa using a1
        have b2 : (c == 10) = false := by simpa using a2
        have b3 : (c == 13) = false := by simpa using a3
        go_enter Try.func34, Try.ntmps34
        go_wp2
        all_goals go_ret
        all_goals exact ⟨rbool (by rw [Bool.eq_iff_iff]; simp [blkB, a1, a2, a3]), rfl⟩

theorem digit_dev (c : Int) (w : World) : Calls Try.prog 37 #[.int .i64 c] w fun e w' => e = .returned (.bool (digB c)) ∧ w = w' := by
  by_cases a1 : 48 ≤ c
  · go_enter Try.func37, Try.ntmps37
    go_wp2
    all_goals go_ret
    all_goals exact ⟨rbool (by rw [Bool.eq_iff_iff]; simp [digB]; omega), rfl⟩
  · go_enter Try.func37, Try.ntmps37
    go_wp2
    all_goals go_ret
    all_goals exact ⟨rbool (by rw [Bool.eq_iff_iff]; simp [digB]; omega), rfl⟩

theorem letter_dev (c : Int) (w : World) : Calls Try.prog 35 #[.int .i64 c] w fun e w' => e = .returned (.bool (letB c)) ∧ w = w' := by
  by_cases a1 : 65 ≤ c
  · by_cases a2 : c ≤ 90
    · go_enter Try.func35, Try.ntmps35
      go_wp2
      all_goals go_ret
      all_goals exact ⟨rbool (by rw [Bool.eq_iff_iff]; simp [letB]; omega), rfl⟩
    · by_cases a3 : 97 ≤ c
      · by_cases a4 : c ≤ 122
        · go_enter Try.func35, Try.ntmps35
          go_wp2
          all_goals go_ret
          all_goals exact ⟨rbool (by rw [Bool.eq_iff_iff]; simp [letB]; omega), rfl⟩
        · go_enter Try.func35, Try.ntmps35
          go_wp2
          all_goals go_ret
          all_goals exact ⟨rbool (by rw [Bool.eq_iff_iff]; simp [letB]; omega), rfl⟩
      · go_enter Try.func35, Try.ntmps35
        go_wp2
        all_goals go_ret
        all_goals exact ⟨rbool (by rw [Bool.eq_iff_iff]; simp [letB]; omega), rfl⟩
  · go_enter Try.func35, Try.ntmps35
    go_wp2
    all_goals go_ret
    all_goals exact ⟨rbool (by rw [Bool.eq_iff_iff]; simp [letB]; omega), rfl⟩

def hxB (c : Int) : Bool := decide (0 ≤ hexF c)
theorem hxB_digit {c : Int} (h : digB c = true) : hxB c = true := by
  unfold hxB hexF; rw [if_pos h]; simp [digB] at h; simp; omega
theorem hxB_other {c : Int} (h : digB c = false) : hxB c = (decide (97 ≤ c) && decide (c ≤ 102)) := by
  unfold hxB hexF
  rw [if_neg (by rw [h]; simp)]
  by_cases h2 : (decide (97 ≤ c) && decide (c ≤ 102)) = true
  · rw [if_pos h2, h2]; simp at h2; simp; omega
  · rw [if_neg h2, Bool.eq_false_iff.2 h2]; rfl

theorem hex_dev (c : Int) (w : World) (h0 : 0 ≤ c) (h1 : c ≤ 255) : Calls Try.prog 45 #[.int .u8 c] w fun e w' => e = .returned (.bool (hxB c)) ∧ w = w' := by
  by_cases a1 : digB c = true
  · have A1 : Hid (digB c = true) := a1
    go_enter Try.func45, Try.ntmps45
    go_wp2_with (go_at_call 37; refine (digit_dev _ _).mono ?_; rintro e w1 ⟨rfl, rfl⟩)
    all_goals go_ret
    all_goals exact ⟨rbool (hxB_digit A1.out).symm, rfl⟩
  · have a2 : digB c = false := Bool.eq_false_iff.2 a1
    have HB : Hid (hxB c = (decide (97 ≤ c) && decide (c ≤ 102))) := hxB_other a2
    by_cases b1 : 97 ≤ c
    · go_enter Try.func45, Try.ntmps45
      go_wp2_with (go_at_call 37; refine (digit_dev _ _).mono ?_; rintro e w1 ⟨rfl, rfl⟩)
      all_goals go_ret
      all_goals exact ⟨rbool (by rw [HB.out]; simp_all <;> omega), rfl⟩
    · go_enter Try.func45, Try.ntmps45
      go_wp2_with (go_at_call 37; refine (digit_dev _ _).mono ?_; rintro e w1 ⟨rfl, rfl⟩)
      all_goals go_ret
      all_goals exact ⟨rbool (by rw [HB.out]; simp_all <;> omega), rfl⟩

theorem hexV_dev (c : Int) (w : World) (h0 : 0 ≤ c) (h1 : c ≤ 255) (h2 : 0 ≤ hexF c) : Calls Try.prog 46 #[.int .u8 c] w fun e w' => e = .returned (.int .u8 (hexF c)) ∧ w = w' := by
  by_cases a1 : digB c = true
  · have b1 : 48 ≤ c ∧ c ≤ 57 := by simpa [digB] using a1
    obtain ⟨b2, b3⟩ := b1
    have HE : Hid (hexF c = c - 48) := by show _ = _; rw [hexF, if_pos a1]
    clear h2 a1
    go_enter Try.func46, Try.ntmps46
    go_wp2
    all_goals go_ret
    all_goals exact ⟨rint (by rw [HE.out]), rfl⟩
  · have hh : 97 ≤ c ∧ c ≤ 102 ∧ hexF c = c - 87 := by
      unfold hexF at h2 ⊢
      rw [if_neg a1] at h2 ⊢
      by_cases h3 : (decide (97 ≤ c) && decide (c ≤ 102)) = true
      · rw [if_pos h3]; simp at h3; exact ⟨h3.1, h3.2, rfl⟩
      · rw [if_neg h3] at h2; omega
    obtain ⟨b2, b3, b4⟩ := hh
    have HE : Hid (hexF c = c - 87) := b4
    clear h2 a1 b4
    go_enter Try.func46, Try.ntmps46
    go_wp2
    all_goals go_ret
    all_goals exact ⟨rint (by rw [HE.out]; omega), rfl⟩

theorem rpair {k : IntKind} {a b : Int} {c d : Bool} (h : a = b) (h' : c = d) : Ending.returned (.tuple #[.int k a, .bool c]) = .returned (.tuple #[.int k b, .bool d]) := by rw [h, h']
theorem kind_dev (c : Int) (w : World) : Calls Try.prog 44 #[.int .i64 c] w fun e w' => e = .returned (.tuple #[.int .i64 (markF c), .bool (decide (0 < markF c))]) ∧ w = w' := by
  go_enter Try.func44, Try.ntmps44
  go_wp2
  all_goals go_ret2
  all_goals exact ⟨rpair (by simp_all [markF]) (by simp_all [markF]), rfl⟩

/-- Does p stand at r's beginning? -/
def pfx (r p : ByteArray) : Bool := decide (p.size ≤ r.size) && ((r.extract 0 p.size).toList == p.toList)
theorem prefix_lite (r p : ByteArray) (w : World) (hr : r.size ≤ 65536) (hp : p.size ≤ 65536) : Calls Try.prog 47 #[.string r, .string p] w fun e w' => e = .returned (.bool (pfx r p)) ∧ w = w' := by
  by_cases a1 : p.size ≤ r.size
  · go_enter Try.func47, Try.ntmps47
    go_wp2
    all_goals go_ret
    all_goals exact ⟨rbool (by unfold pfx; rw [decide_eq_true a1]; simp), rfl⟩
  · go_enter Try.func47, Try.ntmps47
    go_wp2
    all_goals go_ret
    all_goals exact ⟨rbool (by unfold pfx; rw [decide_eq_false a1]; rfl), rfl⟩
theorem prefix_any (r p : ByteArray) (w : World) (hr : r.size ≤ 65536) (hp : p.size ≤ 65536) : Calls Try.prog 43 #[.string r, .string p] w fun e w' => e = .returned (.bool (pfx r p)) ∧ w = w' := by
  go_enter Try.func43, Try.ntmps43
  go_wp2_with (go_at_call 47; refine (prefix_lite _ _ _ hr hp).mono ?_; rintro e w1 ⟨rfl, rfl⟩)
  all_goals go_ret
  all_goals exact ⟨rfl, rfl⟩

def pk (s : ByteArray) (k : Nat) : Int := if k = s.size then -1 else PlainAid.bt s k
theorem pk_end {s : ByteArray} {k : Nat} (h : k = s.size) : pk s k = -1 := if_pos h
theorem pk_in {s : ByteArray} {k : Nat} (h : k < s.size) : pk s k = PlainAid.bt s k := if_neg (by omega)

theorem peek_any {W : World} {B : Nat} {s : ByteArray} {st nx bg : Nat} {rd : List Int} {ps : List Pc} {ft : Nat} {w : World} (hR : Rd W B s ⟨st, nx, bg, rd, ps, ft⟩ w) (hs : s.size ≤ 65536) (hn : nx ≤ s.size) :
    Calls Try.prog 33 #[.pointer (some ⟨B, 0, none⟩)] w fun e w' => e = .returned (.int .i64 (pk s nx)) ∧ Below w.heap.size w w' := by
  obtain ⟨r0, r1, r2, r3, r6⟩ := hR.all
  have hb := PlainAid.get_bt s
  have u0 := PlainAid.bt_nonneg s nx
  have u1 := PlainAid.bt_le s nx
  by_cases h : nx = s.size
  · have HP : Hid (pk s nx = -1) := pk_end h
    have h' : ((nx : Int) == (s.size : Int)) = true := by simp [h]
    clear hR r1 r3 r6 h
    go_enter Try.func33, Try.ntmps33
    go_wp2
    go_quiet (fail)
    go_wp2
    all_goals go_ret
    all_goals exact ⟨rint HP.out.symm, ⟨rfl, rfl, rfl, Nat.le_refl _, fun _ _ => rfl⟩⟩
  · have hlt : nx < s.size := by omega
    have HP : Hid (pk s nx = PlainAid.bt s nx) := pk_in hlt
    have h' : ((nx : Int) == (s.size : Int)) = false := by simp; omega
    clear hR r1 r3 r6 h
    go_enter Try.func33, Try.ntmps33
    go_wp2
    go_quiet (fail)
    go_wp2
    go_quiet (fail)
    go_wp2
    all_goals go_ret
    all_goals exact ⟨rint HP.out.symm, ⟨rfl, rfl, rfl, Nat.le_refl _, fun _ _ => rfl⟩⟩

theorem rest_any {W : World} {B : Nat} {s : ByteArray} {st nx bg : Nat} {rd : List Int} {ps : List Pc} {ft : Nat} {w : World} (hR : Rd W B s ⟨st, nx, bg, rd, ps, ft⟩ w) (hs : s.size ≤ 65536) (hn : nx ≤ s.size) :
    Calls Try.prog 42 #[.pointer (some ⟨B, 0, none⟩)] w fun e w' => e = .returned (.string (s.extract nx s.size)) ∧ Below w.heap.size w w' := by
  obtain ⟨r0, r1, r2, r3, r6⟩ := hR.all
  clear hR r1 r3 r6
  go_enter Try.func42, Try.ntmps42
  go_wp2
  go_quiet (fail)
  go_wp2
  all_goals go_ret
  all_goals exact ⟨rfl, ⟨rfl, rfl, rfl, Nat.le_refl _, fun _ _ => rfl⟩⟩

theorem fail_any {W : World} {B : Nat} {s : ByteArray} {st nx bg : Nat} {rd : List Int} {ps : List Pc} {ft : Nat} {w : World} (hR : Rd W B s ⟨st, nx, bg, rd, ps, ft⟩ w) (k : Nat) (hk : k ≤ 201) :
    Calls Try.prog 38 #[.pointer (some ⟨B, 0, none⟩), .int .i64 (k : Int)] w fun e w' => e = .returned (.tuple #[]) ∧ Rd W B s ⟨5, nx, bg, rd, ps, k⟩ w' := by
  obtain ⟨r0, r1, r2, r3, r6⟩ := hR.all
  have f6 := hR.fz 6
  have f1 := hR.fz 1
  go_enter Try.func38, Try.ntmps38
  go_wp2
  go_end0
  exact ⟨rfl, (hR.put6 k).put1 5⟩
end Go.Proofs.Ytbpkpfnjgljilaa
