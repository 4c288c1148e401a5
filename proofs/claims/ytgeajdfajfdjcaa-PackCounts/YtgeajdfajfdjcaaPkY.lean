/- The reader's picks. -/
import Derived.Test.YtgeajdfajfdjcaaPkX
namespace Go.Proofs.Ytgeajdfajfdjcaa
set_option linter.unusedVariables false
set_option linter.unusedSimpArgs false
open Go.ChangeShapes Go.WideShapes Go.ChangeAt Go.RowKit

theorem Try.infoInt : (Try.prog.info? 3).map (fun i => (i.zero, i.size, i.bytes)) = some (some (.int .i64 0), 1, 8) := by kernel_rfl
theorem zsV_one (l : List Int) : ∀ x ∈ zsV l, x.oneCell' = true := by
  intro x hx
  unfold zsV at hx
  obtain ⟨z, _, rfl⟩ := List.mem_map.1 hx
  rfl
theorem len1 {α : Type} {l : List α} (h : l.length = 1) : ∃ a, l = [a] := by
  match l, h with
  | [a], _ => exact ⟨a, rfl⟩
theorem len2 {α : Type} {l : List α} (h : l.length = 2) : ∃ a b, l = [a, b] := by
  match l, h with
  | [a, b], _ => exact ⟨a, b, rfl⟩
theorem len4 {α : Type} {l : List α} (h : l.length = 4) : ∃ a b c d, l = [a, b, c, d] := by
  match l, h with
  | [a, b, c, d], _ => exact ⟨a, b, c, d, rfl⟩
theorem row_noP {w : World} {B n rb : Nat} {v : Value} {xs : List Value} {l : List UInt8} (h : w.ownsRow B 3 1 v n xs) (hr : RdAt w rb l) : v.ownBlock ≠ some rb := own_neL h hr (by decide)
theorem row_noQ {w : World} {B n pb : Nat} {v : Value} {xs : List Value} {arr : Array Value} (h : w.ownsRow B 3 1 v n xs) (hr : w.heap[pb]? = some (.cells arr 49)) : v.ownBlock ≠ some pb := own_neL h hr (by decide)
theorem ownsRow_setP {w : World} {B e size n b : Nat} {v : Value} {xs : List Value} (h : w.ownsRow B e size v n xs) (hne : v.ownBlock ≠ some b) {k : Nat} (x : Value) : (w.setCell ⟨b, k, none⟩ x).ownsRow B e size v n xs :=
  h.kept (row := some b) ⟨rfl, rfl, rfl, by simp [World.setCell], fun i _ hk => Go.Deep.blk_setCell_other _ ⟨b, k, none⟩ _ i (fun e => hk (by rw [e]))⟩ (Or.inr hne)
/-- A pick that is being read: its block, the row of its kids. -/
structure PkL (W : World) (rb pb : Nat) (a c : Int) (p : Option Addr) (k cp : Nat) (ks : List Int) (r : List UInt8) (w : World) : Prop where
  hp : w.heap[pb]? = some (.cells #[.int .i64 a, .int .i64 c, .slice p k cp] 49)
  own : w.ownsRow W.heap.size 3 1 (.slice p k cp) k (zsV ks)
  rd : RdAt w rb r
  gb : Gb rb W w
theorem PkL.keep {W w w' : World} {rb pb : Nat} {a c : Int} {p : Option Addr} {k cp : Nat} {ks : List Int} {r : List UInt8} (h : PkL W rb pb a c p k cp ks r w) (hb : Below w.heap.size w w') : PkL W rb pb a c p k cp ks r w' :=
  ⟨(hb.block _ (heap_lt h.hp)).trans h.hp, row_keep h.own hb, (hb.block _ (heap_lt h.rd)).trans h.rd, h.gb.trans (Gb.below hb)⟩
/-- What reading a pick leaves. -/
def PickEnd (W : World) (rb : Nat) (l : List UInt8) (e : Ending) (w' : World) : Prop := Hid (Gb rb W w') ∧ (match pkR l with
      | some (p, l') => ∃ pv cv, e = .returned (.iface 49 (.agg #[.int .i64 p.at_, .int .i64 p.conj, .slice pv p.kids.length cv])) ∧ Hid (RdAt w' rb l' ∧ IsZs w' (fun b => W.heap.size ≤ b) (.slice pv p.kids.length cv) p.kids ∧ l'.length ≤ 1048576)
      | none => e = .returned .nilIface)
set_option maxHeartbeats 8000000 in
set_option maxRecDepth 100000 in
theorem rpick_any (W : World) (rb : Nat) (l : List UInt8) (hr : RdAt W rb l) (hl : l.length ≤ 1048576) :
    Calls Try.prog 53 #[.pointer (some ⟨rb, 0, none⟩)] W fun e w' => PickEnd W rb l e w' := by
  have hrb : rb < W.heap.size := heap_lt hr
  obtain ⟨X, hX⟩ : ∃ X, X = (W.alloc (.cells #[.int .i64 0, .int .i64 0, .slice none 0 0] 49)).alloc (.cells #[.int .i64 0] 3) := ⟨_, rfl⟩
  have hXs : X.heap.size = W.heap.size + 2 := by rw [hX]; simp
  have hXB : Below W.heap.size W X := by rw [hX]; exact (bel1 _ _).alloc (by simp) _
  have hXp : X.heap[W.heap.size]? = some (.cells #[.int .i64 0, .int .i64 0, .slice none 0 0] 49) := by rw [hX]; exact (heap_alloc_old' _ (by simp)).trans (heap_alloc_new _ _)
  have hXk : X.heap[W.heap.size + 1]? = some (.cells #[.int .i64 0] 3) := by
    rw [hX]
    have := heap_alloc_new (W.alloc (.cells #[.int .i64 0, .int .i64 0, .slice none 0 0] 49)) (.cells #[.int .i64 0] 3)
    rw [show (W.alloc (.cells #[.int .i64 0, .int .i64 0, .slice none 0 0] 49)).heap.size = W.heap.size + 1 by simp] at this
    exact this
  have hXr : RdAt X rb l := (hXB.block rb hrb).trans hr
  obtain ⟨pb, hpb⟩ : ∃ pb, pb = W.heap.size := ⟨_, rfl⟩
  have HB : Hid (pb = W.heap.size ∧ rb < pb) := ⟨hpb, by omega⟩
  -- the first number
  have K1 : Hid (∀ w', w' = X → Calls Try.prog 52 #[.pointer (some ⟨rb, 0, none⟩), .slice (some ⟨w'.heap.size, 0, none⟩) 1 1] (w'.alloc (.cells #[.pointer (some ⟨W.heap.size, 0, none⟩)] 92)) fun e w'' => ∃ ok, e = .returned (.bool ok) ∧ Hid (Gb rb W w'') ∧ Hid (match manyR (numR 2) 1 l with
      | some (vs, l1) => ok = true ∧ ∃ a, vs = [a] ∧ RdAt w'' rb l1 ∧ l1.length ≤ 1048576 ∧ w''.heap[W.heap.size]? = some (.cells #[.int .i64 a, .int .i64 0, .slice none 0 0] 49) ∧ w''.heap[W.heap.size + 1]? = some (.cells #[.int .i64 0] 3)
      | none => ok = false)) := fun w' e0 => by
    subst e0
    refine (taken_u16 W w' rb l [(W.heap.size, 0)] (n := 1) rfl (by simp) (Gb.below hXB) hrb hXr hl (fun a h => ?_)).mono ?_
    · simp only [List.mem_singleton] at h
      subst h
      exact ⟨Nat.le_refl _, _, _, hXp, by simp⟩
    · rintro e w'' ⟨ok, h1, h2, h3⟩
      refine ⟨ok, h1, h2, ?_⟩
      have h4 := h3.out
      show (match manyR (numR 2) 1 l with | some (vs, l1) => _ | none => _)
      simp only [List.length_singleton] at h4
      cases hm : manyR (numR 2) 1 l with
      | none => rw [hm] at h4; exact h4
      | some q =>
        obtain ⟨vs, l1⟩ := q
        rw [hm] at h4
        obtain ⟨g1, g2, g3, g4, g5, g6⟩ := h4
        obtain ⟨a, rfl⟩ := len1 g2
        refine ⟨g1, a, rfl, g3, g5, ?_, ?_⟩
        · rw [g6 _ (by omega) (by omega)]
          exact heap_setCell_is hXp _
        · rw [g6 _ (by omega) (by omega)]
          exact (Go.Deep.blk_setCell_other w' ⟨W.heap.size, 0, none⟩ _ _ (by simp)).trans hXk
  have K2 : Hid (∀ w2 a l1, Gb rb W w2 → RdAt w2 rb l1 → l1.length ≤ 1048576 → w2.heap[W.heap.size]? = some (.cells #[.int .i64 a, .int .i64 0, .slice none 0 0] 49) → w2.heap[W.heap.size + 1]? = some (.cells #[.int .i64 0] 3) → Calls Try.prog 51 #[.pointer (some ⟨rb, 0, none⟩), .slice (some ⟨w2.heap.size, 0, none⟩) 2 2] (w2.alloc (.cells #[.pointer (some ⟨W.heap.size, 1, none⟩), .pointer (some ⟨W.heap.size + 1, 0, none⟩)] 92)) fun e w'' => ∃ ok, e = .returned (.bool ok) ∧ Hid (Gb rb W w'') ∧ Hid (match manyR (numR 1) 2 l1 with
      | some (vs, l2) => ok = true ∧ ∃ c n, vs = [c, n] ∧ RdAt w'' rb l2 ∧ l2.length ≤ 1048576 ∧ w''.heap[W.heap.size]? = some (.cells #[.int .i64 a, .int .i64 c, .slice none 0 0] 49) ∧ w''.heap[W.heap.size + 1]? = some (.cells #[.int .i64 n] 3)
      | none => ok = false)) := fun w2 a l1 hg hr1 hl1 hp1 hk1 => by
    have hlp := heap_lt hp1
    have hlk := heap_lt hk1
    refine (taken_u8 W w2 rb l1 [(W.heap.size, 1), (W.heap.size + 1, 0)] (n := 2) rfl (by simp) hg hrb hr1 hl1 (fun b h => ?_)).mono ?_
    · simp only [List.mem_cons, List.not_mem_nil, or_false] at h
      rcases h with rfl | rfl
      · exact ⟨Nat.le_refl _, _, _, hp1, by simp⟩
      · exact ⟨by simp, _, _, hk1, by simp⟩
    · rintro e w'' ⟨ok, h1, h2, h3⟩
      refine ⟨ok, h1, h2, ?_⟩
      have h4 := h3.out
      show (match manyR (numR 1) 2 l1 with | some (vs, l2) => _ | none => _)
      simp only [List.length_cons, List.length_nil, Nat.zero_add, Nat.reduceAdd] at h4
      cases hm : manyR (numR 1) 2 l1 with
      | none => rw [hm] at h4; exact h4
      | some q =>
        obtain ⟨vs, l2⟩ := q
        rw [hm] at h4
        obtain ⟨g1, g2, g3, g4, g5, g6⟩ := h4
        obtain ⟨c, n, rfl⟩ := len2 g2
        have k1 := heap_setCell_is (k := 1) hp1 (.int .i64 c)
        have k2 : (w2.setCell ⟨W.heap.size, 1, none⟩ (.int .i64 c)).heap[W.heap.size + 1]? = _ := (Go.Deep.blk_setCell_other w2 ⟨W.heap.size, 1, none⟩ _ _ (by simp)).trans hk1
        refine ⟨g1, c, n, rfl, g3, g5, ?_, ?_⟩
        · rw [g6 _ hlp (by omega)]
          exact (Go.Deep.blk_setCell_other _ ⟨W.heap.size + 1, 0, none⟩ _ _ (by simp)).trans k1
        · rw [g6 _ hlk (by omega)]
          exact heap_setCell_is k2 _
  have K3 : Hid (∀ a c p k cp ks r wr, PkL W rb W.heap.size a c p k cp ks r wr → r.length ≤ 1048576 → Calls Try.prog 38 #[.pointer (some ⟨rb, 0, none⟩), .slice (some ⟨wr.heap.size + 1, 0, none⟩) 1 1] ((wr.alloc (.cells #[.int .i64 0] 3)).alloc (.cells #[.pointer (some ⟨wr.heap.size, 0, none⟩)] 92)) fun e w'' => ∃ ok, e = .returned (.bool ok) ∧ Hid (Gb rb W w'') ∧ Hid (match numR 4 r with
      | some (z, r2) => ok = true ∧ PkL W rb W.heap.size a c p k cp ks r2 w'' ∧ r2.length ≤ 1048576 ∧ w''.heap[wr.heap.size]? = some (.cells #[.int .i64 z] 3) ∧ wr.heap.size < w''.heap.size
      | none => ok = false)) := fun a c p k cp ks r wr L hl1 => by
    have L1 := L.keep (bel1 wr (.cells #[.int .i64 0] 3))
    have hn := heap_alloc_new wr (.cells #[.int .i64 0] 3)
    have hs1 : (wr.alloc (.cells #[.int .i64 0] 3)).heap.size = wr.heap.size + 1 := by simp
    have hWs := L.gb.size
    have ht := taken_u32 wr (wr.alloc (.cells #[.int .i64 0] 3)) rb r [(wr.heap.size, 0)] (n := 1) rfl (by simp) (Gb.below (bel1 _ _)) (by omega) L1.rd hl1 (fun b h => by
      simp only [List.mem_singleton] at h
      subst h
      exact ⟨Nat.le_refl _, _, _, hn, by simp⟩)
    rw [hs1] at ht
    refine ht.mono ?_
    rintro e w'' ⟨ok, h1, h2, h3⟩
    refine ⟨ok, h1, L.gb.trans h2.out, ?_⟩
    have h4 := h3.out
    show (match numR 4 r with | some (z, r2) => _ | none => _)
    simp only [List.length_singleton, manyR] at h4
    cases hm : numR 4 r with
    | none => rw [hm] at h4; exact h4
    | some q =>
      obtain ⟨z, r2⟩ := q
      rw [hm] at h4
      obtain ⟨g1, g2, g3, g4, g5, g6⟩ := h4
      have hpl := heap_lt L.hp
      refine ⟨g1, ⟨?_, ?_, g3, L.gb.trans h2.out⟩, g5, ?_, by omega⟩
      · exact (h2.out.blk hpl (by omega)).trans L.hp
      · have hne : (Value.slice p k cp).ownBlock ≠ some rb := row_noP L.own L.rd
        exact L.own.kept h2.out (Or.inr hne)
      · rw [g6 _ (by omega) (by omega)]
        exact heap_setCell_is hn _
  have KA : Hid (∀ (a c : Int) (p : Option Addr) (k cp : Nat) (ks : List Int) (r : List UInt8) (z : Int) (w3 : World) (g : Nat), PkL W rb W.heap.size a c p k cp ks r w3 → w3.heap[g]? = some (.cells #[.int .i64 z] 3) → k ≤ 255 → ∃ p2 cp2 w4, (Builtin.append_ #[47, 47] 47 #[.slice p k cp, .slice (some ⟨w3.heap.size, 0, none⟩) 1 1]).run Try.prog (w3.alloc (.cells #[.int .i64 z] 3)) = .ok (.slice p2 (k + 1) cp2) w4 ∧ w4.cell? ⟨W.heap.size, 2, none⟩ = some (.slice p k cp) ∧ w4.frozen? ⟨W.heap.size, 2, none⟩ = false ∧ Hid (PkL W rb W.heap.size a c p2 (k + 1) cp2 (ks ++ [z]) r (w4.setCell ⟨W.heap.size, 2, none⟩ (.slice p2 (k + 1) cp2)))) := fun a c p k cp ks r z w3 g L hg hk => by
    obtain ⟨i, hi, hz, hsz, hby⟩ := info_parts Try.infoInt
    have L1 := L.keep (bel1 w3 (.cells #[.int .i64 z] 3))
    have hn := heap_alloc_new w3 (.cells #[.int .i64 z] 3)
    obtain ⟨p2, cp2, w4, h1, h2, h3, h4⟩ := run_append_one (P := Try.prog) W.heap.size 47 3 i _ 1 8 Try.underlying47 hi hz hsz hby rfl (by omega) _ k (zsV ks) L1.own w3.heap.size [.int .i64 z] (fun j x hx => (Lib.cell_of_heap hn j).trans (by simpa using hx)) rfl (by intro x hx; simp at hx; subst hx; rfl) (by unfold maxLen; omega) (by omega) L1.gb.size
    have hne : (Value.slice p k cp).ownBlock ≠ some W.heap.size := row_noQ L1.own L1.hp
    have hnr : (Value.slice p k cp).ownBlock ≠ some rb := row_noP L1.own L1.rd
    have hp4 : w4.heap[W.heap.size]? = some (.cells #[.int .i64 a, .int .i64 c, .slice p k cp] 49) := (h3.block _ (heap_lt L1.hp) (Ne.symm hne)).trans L1.hp
    have hr4 : RdAt w4 rb r := (h3.block _ (heap_lt L1.rd) (Ne.symm hnr)).trans L1.rd
    have hg4 : Gb rb W w4 := ⟨h3.os.trans L1.gb.os, h3.tape.trans L1.gb.tape, h3.output.trans L1.gb.output, Nat.le_trans L1.gb.size h3.size, fun i hi hne2 => (h3.block i (Nat.lt_of_lt_of_le hi L1.gb.size) (fun e => by have := (L1.own.lt i e.symm).1; omega)).trans (L1.gb.block i hi hne2)⟩
    have hne2 : (Value.slice p2 (k + 1) cp2).ownBlock ≠ some W.heap.size := row_noQ h2 hp4
    refine ⟨p2, cp2, w4, h1, Lib.cell_of_heap hp4 2, Lib.frozen_of_heap hp4 2, ?_, ?_, ?_, ?_⟩
    · exact heap_setCell_is hp4 _
    · rw [zsV_app]
      exact ownsRow_setP h2 hne2 _
    · exact (Go.Deep.blk_setCell_other _ ⟨W.heap.size, 2, none⟩ _ _ (by show rb ≠ W.heap.size; omega)).trans hr4
    · exact ⟨hg4.os, hg4.tape, hg4.output, by have := hg4.size; simpa [World.setCell] using this, fun i hi hne3 => (Go.Deep.blk_setCell_other _ ⟨W.heap.size, 2, none⟩ _ _ (by show i ≠ W.heap.size; omega)).trans (hg4.block i hi hne3)⟩
  have HR : Hid (RdAt W rb l) := hr
  clear hr hXp hXk hXr hXB
  go_enter Try.func53, Try.ntmps53
  go_upto_region 3 with fail
  rw [← hX]
  clear hX hXs hpb HB
  cases m1 : manyR (numR 2) 1 l with
  | none =>
    have hp : pkR l = none := by unfold pkR; rw [m1]
    have HPk : Hid (pkR l = none) := hp
    clear hp
    go_wp2_with (go_at_call 52; refine (K1.out _ rfl).mono ?_; rintro e w2 ⟨ok, rfl, g2, h2⟩; rw [m1] at h2; have h2 : ok = false := h2.out; subst h2)
    go_ret
    unfold PickEnd; rw [HPk.out]
    exact ⟨g2, rfl⟩
  | some q1 =>
    obtain ⟨vs, l1⟩ := q1
    obtain ⟨a, rfl⟩ : ∃ a, vs = [a] := len1 ((many_codec (num_codec 2)).2 _ _ _ _ m1).1
    cases m2 : manyR (numR 1) 2 l1 with
    | none =>
      have hp : pkR l = none := by unfold pkR; simp only [m1, m2]
      have HPk : Hid (pkR l = none) := hp
      clear hp
      go_wp2_with (first
        | (go_at_call 52; refine (K1.out _ rfl).mono ?_; rintro e w2 ⟨ok, rfl, g2, h2⟩; rw [m1] at h2; obtain ⟨rfl, a', ea, r2, q2, p2, k2⟩ := h2.out; obtain rfl : a = a' := by simpa using ea)
        | (go_at_call 51; refine (K2.out w2 a l1 g2.out r2 q2 p2 k2).mono ?_; rintro e w3 ⟨ok, rfl, g3, h3⟩; rw [m2] at h3; have h3 : ok = false := h3.out; subst h3))
      go_ret
      unfold PickEnd; rw [HPk.out]
      exact ⟨g3, rfl⟩
    | some q2 =>
      obtain ⟨vs, l2⟩ := q2
      obtain ⟨c, n, rfl⟩ : ∃ c n, vs = [c, n] := len2 ((many_codec (num_codec 1)).2 _ _ _ _ m2).1
      have hfit := ((many_codec (num_codec 1)).2 _ _ _ _ m2).2.1
      have hn : 0 ≤ n ∧ n ≤ 255 := by
        simp only [List.all_cons, List.all_nil, Bool.and_true, Bool.and_eq_true] at hfit
        have := hfit.2
        unfold fitZ at this
        simp only [Bool.and_eq_true, decide_eq_true_eq] at this
        omega
      have HP : Hid (pkR l = match manyR (numR 4) n.toNat l2 with | some (ks, l3) => some (⟨a, c, ks⟩, l3) | none => none) := by
        show pkR l = _
        unfold pkR; simp only [m1, m2]
        cases manyR (numR 4) n.toNat l2 with
        | none => rfl
        | some q => rfl
      have HN : Hid (0 ≤ n ∧ n ≤ 255) := hn
      clear hfit
      go_upto_if 17 with (first
        | (go_at_call 52; refine (K1.out _ rfl).mono ?_; rintro e w2 ⟨ok, rfl, g2, h2⟩; rw [m1] at h2; obtain ⟨rfl, a', ea, r2, q2, p2, k2⟩ := h2.out; obtain rfl : a = a' := by simpa using ea)
        | (go_at_call 51; refine (K2.out w2 a l1 g2.out r2 q2 p2 k2).mono ?_; rintro e w3 ⟨ok, rfl, g3, h3⟩; rw [m2] at h3; obtain ⟨rfl, c', n', ec, r3, q3, p3, k3⟩ := h3.out; obtain ⟨rfl, rfl⟩ : c = c' ∧ n = n' := by simpa using ec))
      have x3 : w3.cell? ⟨W.heap.size + 1, 0, none⟩ = some (.int .i64 n) := Lib.cell_of_heap k3 0
      have HL0 : Hid (PkL W rb W.heap.size a c none 0 0 [] l2 w3) := ⟨p3, World.ownsRow_nil _ _ _ _, r3, g3.out⟩
      have HQ3 : Hid (l2.length ≤ 1048576) := q3
      clear K1 K2 h2 h3 ea ec g2 r2 q2 p2 k2 g3 r3 q3 p3 k3 m1 m2
      go_wp2
      go_loopw [19] (fun x wr => ∃ (k : Nat) (p : Option Addr) (cp : Nat) (ks : List Int) (r : List UInt8), k ≤ n.toNat ∧ x = .int .i64 (k : Int) ∧ Hid (PkL W rb W.heap.size a c p k cp ks r wr ∧ ks.length = k ∧ manyR (numR 4) n.toNat l2 = fromR (numR 4) ks (n.toNat - k) r ∧ r.length ≤ 1048576)) (fun x _ => n.toNat - (intOf x).toNat)
      case atStart => exact ⟨0, none, 0, [], l2, by omega, rfl, HL0.out, rfl, by rw [fromR_nil]; rfl, HQ3.out⟩
      case round =>
        obtain ⟨k, p, cp, ks, r, hk, rfl, HI⟩ := hrel
        have hn := HN.out
        by_cases hlt : k < n.toNat
        · have hltI : (k : Int) < n := by omega
          cases m3 : numR 4 r with
          | none =>
            have hp : pkR l = none := by
              rw [HP.out, HI.out.2.2.1, show n.toNat - k = (n.toNat - (k + 1)) + 1 by omega, fromR_no m3]
            have HPk : Hid (pkR l = none) := hp
            clear hp
            go_wp2_with (go_at_call 38; refine (K3.out a c p k cp ks r wr HI.out.1 HI.out.2.2.2).mono ?_; rintro e w4 ⟨ok, rfl, g4, h4⟩; rw [m3] at h4; have h4 : ok = false := h4.out; subst h4)
            go_ret
            unfold PickEnd; rw [HPk.out]
            exact ⟨g4, rfl⟩
          | some q3 =>
            obtain ⟨z, r2⟩ := q3
            go_wp2_with (first
              | (go_at_call 38; refine (K3.out a c p k cp ks r wr HI.out.1 HI.out.2.2.2).mono ?_; rintro e w4 ⟨ok, rfl, g4, h4⟩; rw [m3] at h4; obtain ⟨rfl, L4, q4, n4, s4⟩ := h4.out; have y1 : w4.cell? ⟨wr.heap.size, 0, none⟩ = some (.int .i64 z) := Lib.cell_of_heap n4 0; have y2 : w4.cell? ⟨W.heap.size, 2, none⟩ = some (.slice p k cp) := Lib.cell_of_heap L4.hp 2; obtain ⟨p5, cp5, w5, hrun, z1, z2, HL⟩ := KA.out a c p k cp ks r2 z w4 _ L4 n4 (by omega); have HL4 : Hid (r2.length ≤ 1048576) := q4; clear L4 n4 q4)
              | (at_builtin; refine wpList_run_appendP rfl _ _ 47 rfl _ _ rfl rfl hrun ?_))
            go_roundw
            case rel =>
              refine ⟨k + 1, p5, cp5, ks ++ [z], r2, by omega, by go_num, HL.out, by simp [HI.out.2.1], ?_, HL4.out⟩
              rw [HI.out.2.2.1, show n.toNat - k = (n.toNat - (k + 1)) + 1 by omega, fromR_yes m3]
            case measure => simp [intOf]; omega
        · obtain rfl : k = n.toNat := by omega
          have hnI : ((n.toNat : Nat) : Int) = n := by omega
          have y0 : wr.cell? ⟨W.heap.size, 0, none⟩ = some (.int .i64 a) := Lib.cell_of_heap HI.out.1.hp 0
          have y1 : wr.cell? ⟨W.heap.size, 1, none⟩ = some (.int .i64 c) := Lib.cell_of_heap HI.out.1.hp 1
          have y2 : wr.cell? ⟨W.heap.size, 2, none⟩ = some (.slice p n.toNat cp) := Lib.cell_of_heap HI.out.1.hp 2
          go_wp2
          go_ret
          have hp : pkR l = some (⟨a, c, ks⟩, r) := by
            rw [HP.out, HI.out.2.2.1, Nat.sub_self, fromR_zero]
          unfold PickEnd; rw [hp]
          refine ⟨HI.out.1.gb, p, cp, ?_, HI.out.1.rd, ?_, HI.out.2.2.2⟩
          · rw [HI.out.2.1]; rfl
          · show IsZs _ _ (.slice p ks.length cp) ks
            rw [HI.out.2.1]
            have h5 := HI.out.1.own
            have h6 : IsZs wr (fun b => W.heap.size ≤ b) (.slice p n.toNat cp) ks := by
              have := Reads.of h5 (F := fun b => W.heap.size ≤ b) (fun b hb => (h5.lt b hb).1)
              unfold IsZs
              rw [HI.out.2.1]; exact this
            exact h6
end Go.Proofs.Ytgeajdfajfdjcaa
