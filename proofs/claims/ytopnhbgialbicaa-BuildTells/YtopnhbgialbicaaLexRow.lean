import Derived.Test.YtopnhbgialbicaaRows
import Derived.Test.YtopnhbgialbicaaLexMem
import Derived.ProofKit
import Derived.OpenShut
import Derived.WalkLawsBesides
import Derived.Deep.QuietTactic
import Derived.BigQuiet
import Derived.OwnWalk
import Derived.Laws.Pointers
import Derived.Deep.RegionLaw
import Derived.Deep.AppendLies
/- What the program's small functions over bytes do. -/
namespace Go.Proofs.Ytopnhbgialbicaa
set_option linter.unusedVariables false
open Go.ChangeShapes Go.WideShapes Go.ChangeAt Go.RowKit

theorem rbool {a b : Bool} (h : a = b) : Ending.returned (.bool a) = .returned (.bool b) := by rw [h]
theorem rint {k : IntKind} {a b : Int} (h : a = b) : Ending.returned (.int k a) = .returned (.int k b) := by rw [h]

def blkB (c : Int) : Bool := decide (c = 9) || decide (c = 10) || decide (c = 13) || decide (c = 32)
theorem blkB_iff (c : Int) : blkB c = true ↔ (c = 9 ∨ c = 10 ∨ c = 13 ∨ c = 32) := by simp [blkB, or_assoc]

theorem blank_dev (c : Int) (w : World) : Calls Try.prog 49 #[.int .i64 c] w fun e w' => e = .returned (.bool (blkB c)) ∧ w = w' := by
  by_cases a1 : c = 9
  · subst a1
    go_enter Try.func49, Try.ntmps49
    go_wp2
    all_goals go_ret
    all_goals exact ⟨rbool rfl, rfl⟩
  · by_cases a2 : c = 10
    · subst a2
      go_enter Try.func49, Try.ntmps49
      go_wp2
      all_goals go_ret
      all_goals exact ⟨rbool rfl, rfl⟩
    · by_cases a3 : c = 13
      · subst a3
        go_enter Try.func49, Try.ntmps49
        go_wp2
        all_goals go_ret
        all_goals exact ⟨rbool rfl, rfl⟩
      · have b1 : (c == 9) = false := by simpa using a1
        have b2 : (c == 10) = false := by simpa using a2
        have b3 : (c == 13) = false := by simpa using a3
        go_enter Try.func49, Try.ntmps49
        go_wp2
        all_goals go_ret
        all_goals exact ⟨rbool (by rw [Bool.eq_iff_iff]; simp [blkB, a1, a2, a3]), rfl⟩

theorem digit_dev (c : Int) (w : World) : Calls Try.prog 52 #[.int .i64 c] w fun e w' => e = .returned (.bool (digB c)) ∧ w = w' := by
  by_cases a1 : 48 ≤ c
  · go_enter Try.func52, Try.ntmps52
    go_wp2
    all_goals go_ret
    all_goals exact ⟨rbool (by rw [Bool.eq_iff_iff]; simp [digB]; omega), rfl⟩
  · go_enter Try.func52, Try.ntmps52
    go_wp2
    all_goals go_ret
    all_goals exact ⟨rbool (by rw [Bool.eq_iff_iff]; simp [digB]; omega), rfl⟩

theorem letter_dev (c : Int) (w : World) : Calls Try.prog 50 #[.int .i64 c] w fun e w' => e = .returned (.bool (letB c)) ∧ w = w' := by
  by_cases a1 : 65 ≤ c
  · by_cases a2 : c ≤ 90
    · go_enter Try.func50, Try.ntmps50
      go_wp2
      all_goals go_ret
      all_goals exact ⟨rbool (by rw [Bool.eq_iff_iff]; simp [letB]; omega), rfl⟩
    · by_cases a3 : 97 ≤ c
      · by_cases a4 : c ≤ 122
        · go_enter Try.func50, Try.ntmps50
          go_wp2
          all_goals go_ret
          all_goals exact ⟨rbool (by rw [Bool.eq_iff_iff]; simp [letB]; omega), rfl⟩
        · go_enter Try.func50, Try.ntmps50
          go_wp2
          all_goals go_ret
          all_goals exact ⟨rbool (by rw [Bool.eq_iff_iff]; simp [letB]; omega), rfl⟩
      · go_enter Try.func50, Try.ntmps50
        go_wp2
        all_goals go_ret
        all_goals exact ⟨rbool (by rw [Bool.eq_iff_iff]; simp [letB]; omega), rfl⟩
  · go_enter Try.func50, Try.ntmps50
    go_wp2
    all_goals go_ret
    all_goals exact ⟨rbool (by rw [Bool.eq_iff_iff]; simp [letB]; omega), rfl⟩

def hxB (c : Int) : Bool := decide (0 ≤ hexF c)
theorem hxB_digit {c : Int} (h : digB c = true) : hxB c = true := by
  unfold hxB hexF; rw [if_pos h]; simp [digB] at h; simp; omega
theorem hxB_other {c : Int} (h : digB c = false) : hxB c = (decide (97 ≤ c) && decide (c ≤ 102)) := by
  unfold hxB hexF
  rw [if_neg (by rw [h]; simp)]
  by_cases h2 : (decide (97 ≤ c) && decide (c ≤ 102)) = true
  · rw [if_pos h2, h2]; simp at h2; simp; omega
  · rw [if_neg h2, Bool.eq_false_iff.2 h2]; rfl

theorem hex_dev (c : Int) (w : World) (h0 : 0 ≤ c) (h1 : c ≤ 255) : Calls Try.prog 60 #[.int .u8 c] w fun e w' => e = .returned (.bool (hxB c)) ∧ w = w' := by
  by_cases a1 : digB c = true
  · have A1 : Hid (digB c = true) := a1
    go_enter Try.func60, Try.ntmps60
    go_wp2_with (go_at_call 52; refine (digit_dev _ _).mono ?_; rintro e w1 ⟨rfl, rfl⟩)
    all_goals go_ret
    all_goals exact ⟨rbool (hxB_digit A1.out).symm, rfl⟩
  · have a2 : digB c = false := Bool.eq_false_iff.2 a1
    have HB : Hid (hxB c = (decide (97 ≤ c) && decide (c ≤ 102))) := hxB_other a2
    by_cases b1 : 97 ≤ c
    · go_enter Try.func60, Try.ntmps60
      go_wp2_with (go_at_call 52; refine (digit_dev _ _).mono ?_; rintro e w1 ⟨rfl, rfl⟩)
      all_goals go_ret
      all_goals exact ⟨rbool (by rw [HB.out]; simp_all <;> omega), rfl⟩
    · go_enter Try.func60, Try.ntmps60
      go_wp2_with (go_at_call 52; refine (digit_dev _ _).mono ?_; rintro e w1 ⟨rfl, rfl⟩)
      all_goals go_ret
      all_goals exact ⟨rbool (by rw [HB.out]; simp_all <;> omega), rfl⟩

theorem hexV_dev (c : Int) (w : World) (h0 : 0 ≤ c) (h1 : c ≤ 255) (h2 : 0 ≤ hexF c) : Calls Try.prog 61 #[.int .u8 c] w fun e w' => e = .returned (.int .u8 (hexF c)) ∧ w = w' := by
  by_cases a1 : digB c = true
  · have b1 : 48 ≤ c ∧ c ≤ 57 := by simpa [digB] using a1
    obtain ⟨b2, b3⟩ := b1
    have HE : Hid (hexF c = c - 48) := by show _ = _; rw [hexF, if_pos a1]
    clear h2 a1
    go_enter Try.func61, Try.ntmps61
    go_wp2
    all_goals go_ret
    all_goals exact ⟨rint (by rw [HE.out]), rfl⟩
  · have hh : 97 ≤ c ∧ c ≤ 102 ∧ hexF c = c - 87 := by
      unfold hexF at h2 ⊢
      rw [if_neg a1] at h2 ⊢
      by_cases h3 : (decide (97 ≤ c) && decide (c ≤ 102)) = true
      · rw [if_pos h3]; simp at h3; exact ⟨h3.1, h3.2, rfl⟩
      · rw [if_neg h3] at h2; omega
    obtain ⟨b2, b3, b4⟩ := hh
    have HE : Hid (hexF c = c - 87) := b4
    clear h2 a1 b4
    go_enter Try.func61, Try.ntmps61
    go_wp2
    all_goals go_ret
    all_goals exact ⟨rint (by rw [HE.out]; omega), rfl⟩

theorem rpair {k : IntKind} {a b : Int} {c d : Bool} (h : a = b) (h' : c = d) : Ending.returned (.tuple #[.int k a, .bool c]) = .returned (.tuple #[.int k b, .bool d]) := by rw [h, h']
theorem kind_dev (c : Int) (w : World) : Calls Try.prog 59 #[.int .i64 c] w fun e w' => e = .returned (.tuple #[.int .i64 (markF c), .bool (decide (0 < markF c))]) ∧ w = w' := by
  go_enter Try.func59, Try.ntmps59
  go_wp2
  all_goals go_ret2
  all_goals exact ⟨rpair (by simp_all [markF]) (by simp_all [markF]), rfl⟩

/-- Does p stand at r's beginning? -/
def pfx (r p : ByteArray) : Bool := decide (p.size ≤ r.size) && ((r.extract 0 p.size).toList == p.toList)
theorem prefix_lite (r p : ByteArray) (w : World) (hr : r.size ≤ 65536) (hp : p.size ≤ 65536) : Calls Try.prog 62 #[.string r, .string p] w fun e w' => e = .returned (.bool (pfx r p)) ∧ w = w' := by
  by_cases a1 : p.size ≤ r.size
  · go_enter Try.func62, Try.ntmps62
    go_wp2
    all_goals go_ret
    all_goals exact ⟨rbool (by unfold pfx; rw [decide_eq_true a1]; simp), rfl⟩
  · go_enter Try.func62, Try.ntmps62
    go_wp2
    all_goals go_ret
    all_goals exact ⟨rbool (by unfold pfx; rw [decide_eq_false a1]; rfl), rfl⟩
theorem prefix_any (r p : ByteArray) (w : World) (hr : r.size ≤ 65536) (hp : p.size ≤ 65536) : Calls Try.prog 58 #[.string r, .string p] w fun e w' => e = .returned (.bool (pfx r p)) ∧ w = w' := by
  go_enter Try.func58, Try.ntmps58
  go_wp2_with (go_at_call 62; refine (prefix_lite _ _ _ hr hp).mono ?_; rintro e w1 ⟨rfl, rfl⟩)
  all_goals go_ret
  all_goals exact ⟨rfl, rfl⟩

def pk (s : ByteArray) (k : Nat) : Int := if k = s.size then -1 else PlainAid.bt s k
theorem pk_end {s : ByteArray} {k : Nat} (h : k = s.size) : pk s k = -1 := if_pos h
theorem pk_in {s : ByteArray} {k : Nat} (h : k < s.size) : pk s k = PlainAid.bt s k := if_neg (by omega)

theorem peek_any {W : World} {B : Nat} {s : ByteArray} {st nx bg : Nat} {rd : List Int} {ps : List Pc} {ft : Nat} {w : World} (hR : Rd W B s ⟨st, nx, bg, rd, ps, ft⟩ w) (hs : s.size ≤ 65536) (hn : nx ≤ s.size) :
    Calls Try.prog 48 #[.pointer (some ⟨B, 0, none⟩)] w fun e w' => e = .returned (.int .i64 (pk s nx)) ∧ Below w.heap.size w w' := by
  obtain ⟨r0, r1, r2, r3, r6⟩ := hR.all
  have hb := PlainAid.get_bt s
  have u0 := PlainAid.bt_nonneg s nx
  have u1 := PlainAid.bt_le s nx
  by_cases h : nx = s.size
  · have HP : Hid (pk s nx = -1) := pk_end h
    have h' : ((nx : Int) == (s.size : Int)) = true := by simp [h]
    clear hR r1 r3 r6 h
    go_enter Try.func48, Try.ntmps48
    go_wp2
    go_quiet (fail)
    go_wp2
    all_goals go_ret
    all_goals exact ⟨rint HP.out.symm, ⟨rfl, rfl, rfl, Nat.le_refl _, fun _ _ => rfl⟩⟩
  · have hlt : nx < s.size := by omega
    have HP : Hid (pk s nx = PlainAid.bt s nx) := pk_in hlt
    have h' : ((nx : Int) == (s.size : Int)) = false := by simp; omega
    clear hR r1 r3 r6 h
    go_enter Try.func48, Try.ntmps48
    go_wp2
    go_quiet (fail)
    go_wp2
    go_quiet (fail)
    go_wp2
    all_goals go_ret
    all_goals exact ⟨rint HP.out.symm, ⟨rfl, rfl, rfl, Nat.le_refl _, fun _ _ => rfl⟩⟩

theorem rest_any {W : World} {B : Nat} {s : ByteArray} {st nx bg : Nat} {rd : List Int} {ps : List Pc} {ft : Nat} {w : World} (hR : Rd W B s ⟨st, nx, bg, rd, ps, ft⟩ w) (hs : s.size ≤ 65536) (hn : nx ≤ s.size) :
    Calls Try.prog 57 #[.pointer (some ⟨B, 0, none⟩)] w fun e w' => e = .returned (.string (s.extract nx s.size)) ∧ Below w.heap.size w w' := by
  obtain ⟨r0, r1, r2, r3, r6⟩ := hR.all
  clear hR r1 r3 r6
  go_enter Try.func57, Try.ntmps57
  go_wp2
  go_quiet (fail)
  go_wp2
  all_goals go_ret
  all_goals exact ⟨rfl, ⟨rfl, rfl, rfl, Nat.le_refl _, fun _ _ => rfl⟩⟩

theorem fail_any {W : World} {B : Nat} {s : ByteArray} {st nx bg : Nat} {rd : List Int} {ps : List Pc} {ft : Nat} {w : World} (hR : Rd W B s ⟨st, nx, bg, rd, ps, ft⟩ w) (k : Nat) (hk : k ≤ 201) :
    Calls Try.prog 53 #[.pointer (some ⟨B, 0, none⟩), .int .i64 (k : Int)] w fun e w' => e = .returned (.tuple #[]) ∧ Rd W B s ⟨5, nx, bg, rd, ps, k⟩ w' := by
  obtain ⟨r0, r1, r2, r3, r6⟩ := hR.all
  have f6 := hR.fz 6
  have f1 := hR.fz 1
  go_enter Try.func53, Try.ntmps53
  go_wp2
  go_end0
  exact ⟨rfl, (hR.put6 k).put1 5⟩
end Go.Proofs.Ytopnhbgialbicaa
/- What the program's reader does to take a byte, and to end a token. -/
namespace Go.Proofs.Ytopnhbgialbicaa
set_option linter.unusedVariables false
open Go.ChangeShapes Go.WideShapes Go.ChangeAt Go.RowKit

theorem Try.infoByte : (Try.prog.info? 5).map (fun i => (i.zero, i.size, i.bytes)) = some (some (.int .u8 0), 1, 1) := by kernel_rfl
theorem Try.infoPiece : (Try.prog.info? 93).map (fun i => (i.zero, i.size, i.bytes)) = some (some (.agg #[.int .i64 0, .int .i64 0, .nilIface]), 3, 32) := by kernel_rfl

set_option maxHeartbeats 1000000 in
theorem add_any {W : World} {B : Nat} {s : ByteArray} {st nx bg : Nat} {rd : List Int} {ps : List Pc} {ft : Nat} {w : World} (hR : Rd W B s ⟨st, nx, bg, rd, ps, ft⟩ w) (c : Int) (k : Nat) (z : Int) (hz : z = (k : Int)) (hrd : rd.length ≤ 65536) (hnx : nx ≤ 65536) (hk : k ≤ 65536) :
    Calls Try.prog 54 #[.pointer (some ⟨B, 0, none⟩), .int .u8 c, .int .i64 z] w fun e w' => e = .returned (.tuple #[]) ∧ Rd W B s ⟨st, nx + k, bg, rd ++ [c], ps, ft⟩ w' := by
  subst hz
  obtain ⟨i, hi0, hz0, hz1, hz2⟩ := info_parts Try.infoByte
  obtain ⟨r0, r1, r2, r3, r6⟩ := hR.all
  obtain ⟨v4, r4, o4⟩ := hR.c4
  have hlt := hR.lt
  have HR : Hid (Rd W B s ⟨st, nx, bg, rd, ps, ft⟩ (w.alloc (.cells #[.int .u8 c] 5))) := hR.keep ((Below.refl _ _).alloc (Nat.le_refl _) _)
  have HL : Hid (rd.length ≤ 65536) := hrd
  have O4 : Hid (w.ownsRow (B + 1) 5 1 v4 rd.length (bytesV rd)) := o4
  obtain ⟨pp, cap, hv⟩ := row_slice o4
  subst hv
  have o4' := o4
  clear hR o4 hrd r1 r3 r6 r0
  go_enter Try.func54, Try.ntmps54
  go_wp2_with (at_builtin; refine wpList_append_own _ rfl _ _ 86 rfl (B + 1) 5 i (.int .u8 0) 1 1 Try.underlying86 hi0 hz0 hz1 hz2 rfl (by decide) _ _ _ rfl (O4.out.alloc _) ⟨w.heap.size, 0, none⟩ 1 1 [.int .u8 c] rfl rfl ?c1 ?c2 ?c3 ?c4 ?c5 ?_)
  case c2 => rfl
  case c3 => have := HL.out; unfold maxLen; omega
  case c4 => have := HL.out; omega
  case c5 => omega
  · intro v' w1 hown' hgrow _
    obtain ⟨p', cap', hv'⟩ := row_slice hown'
    subst hv'
    have c4 : (w.alloc (.cells #[.int .u8 c] 5)).cell? ⟨B, 4, none⟩ = some (.slice pp rd.length cap) := (World.cell?_alloc_past _ _ _ hlt).trans r4
    obtain ⟨q1, q2, q3, v5, q5, q6⟩ := HR.out.grown4 c4 hgrow
    have hR1 : Rd W B s ⟨st, nx, bg, rd, ps, ft⟩ w1 ∨ True := Or.inr trivial
    have d0 := (q1 0).trans HR.out.c0
    have d1 := (q1 1).trans HR.out.c1
    have d2 := (q1 2).trans HR.out.c2
    have d3 := (q1 3).trans HR.out.c3
    have d4 := (q1 4).trans c4
    have d6 := (q1 6).trans HR.out.c6
    have f4 := q2 4
    have f2 := q2 2
    have H1 : Hid (Rd W B s ⟨st, nx, bg, rd ++ [c], ps, ft⟩ (w1.setCell ⟨B, 4, none⟩ (.slice p' (rd.length + 1) cap'))) := by
      have hc : ∀ j, j ≠ 4 → (w1.setCell ⟨B, 4, none⟩ (.slice p' (rd.length + 1) cap')).cell? ⟨B, j, none⟩ = w1.cell? ⟨B, j, none⟩ := fun j hj => World.cell?_setCell_other _ _ _ _ (ne_off (Ne.symm hj))
      have hown2 : w1.ownsRow (B + 1) 5 1 (.slice p' (rd.length + 1) cap') (rd ++ [c]).length (bytesV (rd ++ [c])) := by rw [bytesV_append, List.length_append]; exact hown'
      exact ⟨(hc 0 (by decide)).trans d0, (hc 1 (by decide)).trans d1, (hc 2 (by decide)).trans d2, (hc 3 (by decide)).trans d3, ⟨_, World.cell?_setCell_same _ _ _ d4, ownsRow_setCell_below hown2 (by show B < B + 1; omega) _⟩,
        ⟨v5, (hc 5 (by decide)).trans q5, ownsRow_setCell_below q6 (by show B < B + 1; omega) _⟩, (hc 6 (by decide)).trans d6, fun j => (World.frozen?_setCell _ _ _ _).trans (q2 j), q3.setCell (p := ⟨B, 4, none⟩) (Nat.le_refl _) _⟩
    have e2 : (w1.setCell ⟨B, 4, none⟩ (.slice p' (rd.length + 1) cap')).cell? ⟨B, 2, none⟩ = some (.int .i64 (nx : Int)) := H1.out.c2
    clear hR1 hown' hgrow q1 q2 q3 q5 q6 d0 d1 d3 d6 c4 r2 r4
    go_wp2
    go_end0
    exact ⟨rfl, H1.out.put2 (nx + k) _ (by omega)⟩

set_option maxRecDepth 100000 in
set_option maxHeartbeats 3200000 in
theorem shut_no {W : World} {B : Nat} {s : ByteArray} {st nx bg : Nat} {rd : List Int} {ps : List Pc} {ft : Nat} {w : World} (hR : Rd W B s ⟨st, nx, bg, rd, ps, ft⟩ w) (kind : Nat)  (z : Int) (hz : z = (kind : Int)) (hps : ps.length ≤ 65536) :
    Calls Try.prog 55 #[.pointer (some ⟨B, 0, none⟩), .int .i64 z, .nilIface] w fun e w' => e = .returned (.tuple #[]) ∧ Rd W B s ⟨0, nx, bg, rd, ps ++ [⟨kind, bg, .no⟩], ft⟩ w' := by
  subst hz
  obtain ⟨i, hi0, hz0, hz1, hz2⟩ := info_parts Try.infoPiece
  obtain ⟨r0, r1, r2, r3, r6⟩ := hR.all
  obtain ⟨v5, r5, o5⟩ := hR.c5
  have f5 := hR.fz 5
  have hlt := hR.lt
  have hne : v5.ownBlock ≠ some B := fun e => by have := o5.lt B e; omega
  have HR : Hid (Rd W B s ⟨st, nx, bg, rd, ps, ft⟩ (w.alloc (.cells #[.int .i64 (kind : Int), .int .i64 (bg : Int), .nilIface] 93))) := hR.keep ((Below.refl _ _).alloc (Nat.le_refl _) _)
  have HL : Hid (ps.length ≤ 65536) := hps
  have O5 : Hid (w.ownsRow (B + 1) 93 3 v5 ps.length (pcsV ps)) := o5
  have hA : ps.length + 1 ≤ maxLen := by unfold maxLen; omega
  have hB' : (ps.length + 1) * 32 ≤ 140737488355328 := by omega
  obtain ⟨pp, cap, hv⟩ := row_slice o5
  subst hv
  have cz5 : ∀ o, (w.alloc o).cell? ⟨B, 5, none⟩ = some (.slice pp ps.length cap) := fun o => (World.cell?_alloc_past _ _ _ hlt).trans r5
  have cz3 : ∀ o, (w.alloc o).cell? ⟨B, 3, none⟩ = some (.int .i64 (bg : Int)) := fun o => (World.cell?_alloc_past _ _ _ hlt).trans r3
  have fz5 : ∀ o, (w.alloc o).frozen? ⟨B, 5, none⟩ = false := fun o => (World.frozen?_alloc_past _ _ _ hlt).trans f5
  have cz1 : ∀ o, (w.alloc o).cell? ⟨B, 1, none⟩ = some (.int .i64 (st : Int)) := fun o => (World.cell?_alloc_past _ _ _ hlt).trans r1
  have fz1 : ∀ o, (w.alloc o).frozen? ⟨B, 1, none⟩ = false := fun o => (World.frozen?_alloc_past _ _ _ hlt).trans (hR.fz 1)
  clear hR o5 hps r1 r6 r0 r2
  go_enter Try.func55, Try.ntmps55
  go_wp2_with fail
  go_region_law
    ((refine step_append_lies _ (by rfl) _ _ _ (by rfl) (B + 1) 93 i _ 3 32 Try.underlying87 hi0 hz0 hz1 hz2 rfl (by omega) (.slice pp ps.length cap) ps.length (pcsV ps) (by rfl) ((O5.out.alloc _).drew)
        ⟨w.heap.size, 0, none⟩ 1 1 [.int .i64 (kind : Int), .int .i64 (bg : Int), .nilIface] (by rfl) (by rfl) (World.news_of_block (cs := #[.int .i64 (kind : Int), .int .i64 (bg : Int), .nilIface]) (t := 93) (fr := (0, 0)) (heap_alloc_new w _)) (by simp [Value.oneCell'])
        (by omega) hA hB' (by simp; omega) (w.heap.size + 1) (by simp) ?_; intro gg cap1 w1 hown1 hgrow hat hltg
      have d5 : w1.cell? ⟨B, 5, none⟩ = some (.slice pp ps.length cap) := (hgrow.cell_far ⟨B, 5, none⟩ (by simp; omega) (Ne.symm hne)).trans (cz5 _)
      have df5 : w1.frozen? ⟨B, 5, none⟩ = false := (hgrow.frozen_far ⟨B, 5, none⟩ (by simp; omega) (Ne.symm hne)).trans (fz5 _)
      have d1 : w1.cell? ⟨B, 1, none⟩ = some (.int .i64 (st : Int)) := (hgrow.cell_far ⟨B, 1, none⟩ (by simp; omega) (Ne.symm hne)).trans (cz1 _)
      have df1 : w1.frozen? ⟨B, 1, none⟩ = false := (hgrow.frozen_far ⟨B, 1, none⟩ (by simp; omega) (Ne.symm hne)).trans (fz1 _)))
  all_goals
    have H1 : Hid (Rd W B s ⟨st, nx, bg, rd, ps ++ [⟨kind, bg, .no⟩], ft⟩ (w1.setCell ⟨B, 5, none⟩ (.slice (some ⟨gg, 0, none⟩) (ps.length + 1) cap1))) := by
      have hg' : (w.alloc (.cells #[.int .i64 (kind : Int), .int .i64 (bg : Int), .nilIface] 93)).grownBy w1 (Value.slice pp ps.length cap).ownBlock := ⟨hgrow.os, hgrow.tape, hgrow.output, hgrow.size, hgrow.block⟩
      obtain ⟨q1, q2, q3, v4, q4, q6⟩ := HR.out.grown5 (cz5 _) hg'
      have hc : ∀ j, j ≠ 5 → (w1.setCell ⟨B, 5, none⟩ (.slice (some ⟨gg, 0, none⟩) (ps.length + 1) cap1)).cell? ⟨B, j, none⟩ = w1.cell? ⟨B, j, none⟩ := fun j hj => World.cell?_setCell_other _ _ _ _ (ne_off (Ne.symm hj))
      have hown2 : w1.ownsRow (B + 1) 93 3 (.slice (some ⟨gg, 0, none⟩) (ps.length + 1) cap1) (ps ++ [(⟨kind, bg, .no⟩ : Pc)]).length (pcsV (ps ++ [(⟨kind, bg, .no⟩ : Pc)])) := by rw [pcsV_append, List.length_append]; exact hown1
      exact ⟨(hc 0 (by decide)).trans ((q1 0).trans HR.out.c0), (hc 1 (by decide)).trans ((q1 1).trans HR.out.c1), (hc 2 (by decide)).trans ((q1 2).trans HR.out.c2), (hc 3 (by decide)).trans ((q1 3).trans HR.out.c3),
        ⟨v4, (hc 4 (by decide)).trans q4, ownsRow_setCell_below q6 (by show B < B + 1; omega) _⟩, ⟨_, World.cell?_setCell_same _ _ _ d5, ownsRow_setCell_below hown2 (by show B < B + 1; omega) _⟩,
        (hc 6 (by decide)).trans ((q1 6).trans HR.out.c6), fun j => (World.frozen?_setCell _ _ _ _).trans (q2 j), q3.setCell (p := ⟨B, 5, none⟩) (Nat.le_refl _) _⟩
    go_wp2
    go_end0
    exact ⟨rfl, H1.out.put1 0⟩
set_option maxRecDepth 100000 in
set_option maxHeartbeats 3200000 in
theorem shut_str {W : World} {B : Nat} {s : ByteArray} {st nx bg : Nat} {rd : List Int} {ps : List Pc} {ft : Nat} {w : World} (hR : Rd W B s ⟨st, nx, bg, rd, ps, ft⟩ w) (kind : Nat) (t:ByteArray) (z : Int) (hz : z = (kind : Int)) (hps : ps.length ≤ 65536) :
    Calls Try.prog 55 #[.pointer (some ⟨B, 0, none⟩), .int .i64 z, (.iface 9 (.string t))] w fun e w' => e = .returned (.tuple #[]) ∧ Rd W B s ⟨0, nx, bg, rd, ps ++ [⟨kind, bg, (.str t)⟩], ft⟩ w' := by
  subst hz
  obtain ⟨i, hi0, hz0, hz1, hz2⟩ := info_parts Try.infoPiece
  obtain ⟨r0, r1, r2, r3, r6⟩ := hR.all
  obtain ⟨v5, r5, o5⟩ := hR.c5
  have f5 := hR.fz 5
  have hlt := hR.lt
  have hne : v5.ownBlock ≠ some B := fun e => by have := o5.lt B e; omega
  have HR : Hid (Rd W B s ⟨st, nx, bg, rd, ps, ft⟩ (w.alloc (.cells #[.int .i64 (kind : Int), .int .i64 (bg : Int), (.iface 9 (.string t))] 93))) := hR.keep ((Below.refl _ _).alloc (Nat.le_refl _) _)
  have HL : Hid (ps.length ≤ 65536) := hps
  have O5 : Hid (w.ownsRow (B + 1) 93 3 v5 ps.length (pcsV ps)) := o5
  have hA : ps.length + 1 ≤ maxLen := by unfold maxLen; omega
  have hB' : (ps.length + 1) * 32 ≤ 140737488355328 := by omega
  obtain ⟨pp, cap, hv⟩ := row_slice o5
  subst hv
  have cz5 : ∀ o, (w.alloc o).cell? ⟨B, 5, none⟩ = some (.slice pp ps.length cap) := fun o => (World.cell?_alloc_past _ _ _ hlt).trans r5
  have cz3 : ∀ o, (w.alloc o).cell? ⟨B, 3, none⟩ = some (.int .i64 (bg : Int)) := fun o => (World.cell?_alloc_past _ _ _ hlt).trans r3
  have fz5 : ∀ o, (w.alloc o).frozen? ⟨B, 5, none⟩ = false := fun o => (World.frozen?_alloc_past _ _ _ hlt).trans f5
  have cz1 : ∀ o, (w.alloc o).cell? ⟨B, 1, none⟩ = some (.int .i64 (st : Int)) := fun o => (World.cell?_alloc_past _ _ _ hlt).trans r1
  have fz1 : ∀ o, (w.alloc o).frozen? ⟨B, 1, none⟩ = false := fun o => (World.frozen?_alloc_past _ _ _ hlt).trans (hR.fz 1)
  clear hR o5 hps r1 r6 r0 r2
  go_enter Try.func55, Try.ntmps55
  go_wp2_with fail
  go_region_law
    ((refine step_append_lies _ (by rfl) _ _ _ (by rfl) (B + 1) 93 i _ 3 32 Try.underlying87 hi0 hz0 hz1 hz2 rfl (by omega) (.slice pp ps.length cap) ps.length (pcsV ps) (by rfl) ((O5.out.alloc _).drew)
        ⟨w.heap.size, 0, none⟩ 1 1 [.int .i64 (kind : Int), .int .i64 (bg : Int), (.iface 9 (.string t))] (by rfl) (by rfl) (World.news_of_block (cs := #[.int .i64 (kind : Int), .int .i64 (bg : Int), (.iface 9 (.string t))]) (t := 93) (fr := (0, 0)) (heap_alloc_new w _)) (by simp [Value.oneCell'])
        (by omega) hA hB' (by simp; omega) (w.heap.size + 1) (by simp) ?_; intro gg cap1 w1 hown1 hgrow hat hltg
      have d5 : w1.cell? ⟨B, 5, none⟩ = some (.slice pp ps.length cap) := (hgrow.cell_far ⟨B, 5, none⟩ (by simp; omega) (Ne.symm hne)).trans (cz5 _)
      have df5 : w1.frozen? ⟨B, 5, none⟩ = false := (hgrow.frozen_far ⟨B, 5, none⟩ (by simp; omega) (Ne.symm hne)).trans (fz5 _)
      have d1 : w1.cell? ⟨B, 1, none⟩ = some (.int .i64 (st : Int)) := (hgrow.cell_far ⟨B, 1, none⟩ (by simp; omega) (Ne.symm hne)).trans (cz1 _)
      have df1 : w1.frozen? ⟨B, 1, none⟩ = false := (hgrow.frozen_far ⟨B, 1, none⟩ (by simp; omega) (Ne.symm hne)).trans (fz1 _)))
  all_goals
    have H1 : Hid (Rd W B s ⟨st, nx, bg, rd, ps ++ [⟨kind, bg, (.str t)⟩], ft⟩ (w1.setCell ⟨B, 5, none⟩ (.slice (some ⟨gg, 0, none⟩) (ps.length + 1) cap1))) := by
      have hg' : (w.alloc (.cells #[.int .i64 (kind : Int), .int .i64 (bg : Int), (.iface 9 (.string t))] 93)).grownBy w1 (Value.slice pp ps.length cap).ownBlock := ⟨hgrow.os, hgrow.tape, hgrow.output, hgrow.size, hgrow.block⟩
      obtain ⟨q1, q2, q3, v4, q4, q6⟩ := HR.out.grown5 (cz5 _) hg'
      have hc : ∀ j, j ≠ 5 → (w1.setCell ⟨B, 5, none⟩ (.slice (some ⟨gg, 0, none⟩) (ps.length + 1) cap1)).cell? ⟨B, j, none⟩ = w1.cell? ⟨B, j, none⟩ := fun j hj => World.cell?_setCell_other _ _ _ _ (ne_off (Ne.symm hj))
      have hown2 : w1.ownsRow (B + 1) 93 3 (.slice (some ⟨gg, 0, none⟩) (ps.length + 1) cap1) (ps ++ [(⟨kind, bg, (.str t)⟩ : Pc)]).length (pcsV (ps ++ [(⟨kind, bg, (.str t)⟩ : Pc)])) := by rw [pcsV_append, List.length_append]; exact hown1
      exact ⟨(hc 0 (by decide)).trans ((q1 0).trans HR.out.c0), (hc 1 (by decide)).trans ((q1 1).trans HR.out.c1), (hc 2 (by decide)).trans ((q1 2).trans HR.out.c2), (hc 3 (by decide)).trans ((q1 3).trans HR.out.c3),
        ⟨v4, (hc 4 (by decide)).trans q4, ownsRow_setCell_below q6 (by show B < B + 1; omega) _⟩, ⟨_, World.cell?_setCell_same _ _ _ d5, ownsRow_setCell_below hown2 (by show B < B + 1; omega) _⟩,
        (hc 6 (by decide)).trans ((q1 6).trans HR.out.c6), fun j => (World.frozen?_setCell _ _ _ _).trans (q2 j), q3.setCell (p := ⟨B, 5, none⟩) (Nat.le_refl _) _⟩
    go_wp2
    go_end0
    exact ⟨rfl, H1.out.put1 0⟩
set_option maxRecDepth 100000 in
set_option maxHeartbeats 3200000 in
theorem shut_ends {W : World} {B : Nat} {s : ByteArray} {st nx bg : Nat} {rd : List Int} {ps : List Pc} {ft : Nat} {w : World} (hR : Rd W B s ⟨st, nx, bg, rd, ps, ft⟩ w) (kind : Nat) (lo:Int) (hi:Int) (z : Int) (hz : z = (kind : Int)) (hps : ps.length ≤ 65536) :
    Calls Try.prog 55 #[.pointer (some ⟨B, 0, none⟩), .int .i64 z, (.iface 106 (.agg #[.int .i64 lo,.int .i64 hi]))] w fun e w' => e = .returned (.tuple #[]) ∧ Rd W B s ⟨0, nx, bg, rd, ps ++ [⟨kind, bg, (.ends lo hi)⟩], ft⟩ w' := by
  subst hz
  obtain ⟨i, hi0, hz0, hz1, hz2⟩ := info_parts Try.infoPiece
  obtain ⟨r0, r1, r2, r3, r6⟩ := hR.all
  obtain ⟨v5, r5, o5⟩ := hR.c5
  have f5 := hR.fz 5
  have hlt := hR.lt
  have hne : v5.ownBlock ≠ some B := fun e => by have := o5.lt B e; omega
  have HR : Hid (Rd W B s ⟨st, nx, bg, rd, ps, ft⟩ (w.alloc (.cells #[.int .i64 (kind : Int), .int .i64 (bg : Int), (.iface 106 (.agg #[.int .i64 lo,.int .i64 hi]))] 93))) := hR.keep ((Below.refl _ _).alloc (Nat.le_refl _) _)
  have HL : Hid (ps.length ≤ 65536) := hps
  have O5 : Hid (w.ownsRow (B + 1) 93 3 v5 ps.length (pcsV ps)) := o5
  have hA : ps.length + 1 ≤ maxLen := by unfold maxLen; omega
  have hB' : (ps.length + 1) * 32 ≤ 140737488355328 := by omega
  obtain ⟨pp, cap, hv⟩ := row_slice o5
  subst hv
  have cz5 : ∀ o, (w.alloc o).cell? ⟨B, 5, none⟩ = some (.slice pp ps.length cap) := fun o => (World.cell?_alloc_past _ _ _ hlt).trans r5
  have cz3 : ∀ o, (w.alloc o).cell? ⟨B, 3, none⟩ = some (.int .i64 (bg : Int)) := fun o => (World.cell?_alloc_past _ _ _ hlt).trans r3
  have fz5 : ∀ o, (w.alloc o).frozen? ⟨B, 5, none⟩ = false := fun o => (World.frozen?_alloc_past _ _ _ hlt).trans f5
  have cz1 : ∀ o, (w.alloc o).cell? ⟨B, 1, none⟩ = some (.int .i64 (st : Int)) := fun o => (World.cell?_alloc_past _ _ _ hlt).trans r1
  have fz1 : ∀ o, (w.alloc o).frozen? ⟨B, 1, none⟩ = false := fun o => (World.frozen?_alloc_past _ _ _ hlt).trans (hR.fz 1)
  clear hR o5 hps r1 r6 r0 r2
  go_enter Try.func55, Try.ntmps55
  go_wp2_with fail
  go_region_law
    ((refine step_append_lies _ (by rfl) _ _ _ (by rfl) (B + 1) 93 i _ 3 32 Try.underlying87 hi0 hz0 hz1 hz2 rfl (by omega) (.slice pp ps.length cap) ps.length (pcsV ps) (by rfl) ((O5.out.alloc _).drew)
        ⟨w.heap.size, 0, none⟩ 1 1 [.int .i64 (kind : Int), .int .i64 (bg : Int), (.iface 106 (.agg #[.int .i64 lo,.int .i64 hi]))] (by rfl) (by rfl) (World.news_of_block (cs := #[.int .i64 (kind : Int), .int .i64 (bg : Int), (.iface 106 (.agg #[.int .i64 lo,.int .i64 hi]))]) (t := 93) (fr := (0, 0)) (heap_alloc_new w _)) (by simp [Value.oneCell'])
        (by omega) hA hB' (by simp; omega) (w.heap.size + 1) (by simp) ?_; intro gg cap1 w1 hown1 hgrow hat hltg
      have d5 : w1.cell? ⟨B, 5, none⟩ = some (.slice pp ps.length cap) := (hgrow.cell_far ⟨B, 5, none⟩ (by simp; omega) (Ne.symm hne)).trans (cz5 _)
      have df5 : w1.frozen? ⟨B, 5, none⟩ = false := (hgrow.frozen_far ⟨B, 5, none⟩ (by simp; omega) (Ne.symm hne)).trans (fz5 _)
      have d1 : w1.cell? ⟨B, 1, none⟩ = some (.int .i64 (st : Int)) := (hgrow.cell_far ⟨B, 1, none⟩ (by simp; omega) (Ne.symm hne)).trans (cz1 _)
      have df1 : w1.frozen? ⟨B, 1, none⟩ = false := (hgrow.frozen_far ⟨B, 1, none⟩ (by simp; omega) (Ne.symm hne)).trans (fz1 _)))
  all_goals
    have H1 : Hid (Rd W B s ⟨st, nx, bg, rd, ps ++ [⟨kind, bg, (.ends lo hi)⟩], ft⟩ (w1.setCell ⟨B, 5, none⟩ (.slice (some ⟨gg, 0, none⟩) (ps.length + 1) cap1))) := by
      have hg' : (w.alloc (.cells #[.int .i64 (kind : Int), .int .i64 (bg : Int), (.iface 106 (.agg #[.int .i64 lo,.int .i64 hi]))] 93)).grownBy w1 (Value.slice pp ps.length cap).ownBlock := ⟨hgrow.os, hgrow.tape, hgrow.output, hgrow.size, hgrow.block⟩
      obtain ⟨q1, q2, q3, v4, q4, q6⟩ := HR.out.grown5 (cz5 _) hg'
      have hc : ∀ j, j ≠ 5 → (w1.setCell ⟨B, 5, none⟩ (.slice (some ⟨gg, 0, none⟩) (ps.length + 1) cap1)).cell? ⟨B, j, none⟩ = w1.cell? ⟨B, j, none⟩ := fun j hj => World.cell?_setCell_other _ _ _ _ (ne_off (Ne.symm hj))
      have hown2 : w1.ownsRow (B + 1) 93 3 (.slice (some ⟨gg, 0, none⟩) (ps.length + 1) cap1) (ps ++ [(⟨kind, bg, (.ends lo hi)⟩ : Pc)]).length (pcsV (ps ++ [(⟨kind, bg, (.ends lo hi)⟩ : Pc)])) := by rw [pcsV_append, List.length_append]; exact hown1
      exact ⟨(hc 0 (by decide)).trans ((q1 0).trans HR.out.c0), (hc 1 (by decide)).trans ((q1 1).trans HR.out.c1), (hc 2 (by decide)).trans ((q1 2).trans HR.out.c2), (hc 3 (by decide)).trans ((q1 3).trans HR.out.c3),
        ⟨v4, (hc 4 (by decide)).trans q4, ownsRow_setCell_below q6 (by show B < B + 1; omega) _⟩, ⟨_, World.cell?_setCell_same _ _ _ d5, ownsRow_setCell_below hown2 (by show B < B + 1; omega) _⟩,
        (hc 6 (by decide)).trans ((q1 6).trans HR.out.c6), fun j => (World.frozen?_setCell _ _ _ _).trans (q2 j), q3.setCell (p := ⟨B, 5, none⟩) (Nat.le_refl _) _⟩
    go_wp2
    go_end0
    exact ⟨rfl, H1.out.put1 0⟩
end Go.Proofs.Ytopnhbgialbicaa
