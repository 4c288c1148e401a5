import Derived.Test.YtopnhbgialbicaaGramSeek2
import Derived.Laws.EntriesVeiled
/- Whose name is unknown, whose range is crossed, what is too long; the names that are defined. -/
namespace Go.Proofs.Ytopnhbgialbicaa
set_option linter.unusedVariables false
open Go.ChangeShapes Go.WideShapes Go.ChangeAt Go.RowKit Go.Maps

def retS : Option ByteArray → Value
  | none => .tuple #[.string ⟨#[]⟩, .bool false]
  | some n => .tuple #[.string n, .bool true]
theorem lt_self {w : World} {F : Nat → Prop} {v : Value} {l : List Df} (h : IsDefs w F v l) : IsDefs w (fun b => b < w.heap.size) v l := h.mono fun b _ hb => hb
set_option maxRecDepth 100000 in
set_option maxHeartbeats 2000000 in
theorem crossed_any (v : Value) (l : List Df) (w : World) {F : Nat → Prop} (hd : IsDefs w F v l) (hT : Fit l) : Calls Try.prog 13 #[v] w fun e w' => e = .returned (retS (crossedT l)) ∧ Below w.heap.size w w' := by
  have FD := findRange stopR (fun _ _ => ()) (fun _ w' => Below w.heap.size w w') none w.heap.size 0 w (fun s w' i h _ => (wantRange_any i w').mono fun e w2 ⟨h1, h2⟩ => ⟨h1, grown_of _ h2, fun _ => h.trans (h2.mono h.size)⟩) (fun s w1 w2 h1 h2 => h1.trans (h2.mono h1.size)) (fun b hb => by cases hb) (Nat.le_refl _) v l (lt_self hd) hT () (Below.refl _ _)
  obtain ⟨p, c, hv⟩ := hd.slc
  subst hv
  unfold crossedT
  cases hr : findS stopR (fun _ _ => ()) () (flat l) with
  | none =>
    rw [hr] at FD
    have FE : Calls Try.prog 26 #[.slice p l.length c, .func (.func 28) #[] #[]] w fun e w' => e = .returned (.tuple #[.string ⟨#[]⟩, .agg #[.int .i64 0, .string ⟨#[]⟩, .int .i64 0, .int .i64 0], .bool false]) ∧ Hid (Below w.heap.size w w') := FD.mono fun e w' ⟨h1, h2⟩ => ⟨h1, below_of h2⟩
    clear FD hd
    go_enter Try.func13, Try.ntmps13
    go_wp2_with (go_at_call 26; refine FE.mono ?_; rintro e w1 ⟨rfl, b1⟩)
    refine bodyPost_ret (v := retS none) (by simp [results, Try.results13, go_sem, retS]) rfl ?_
    exact ⟨rfl, b1.out.alloc b1.out.size _⟩
  | some x =>
    obtain ⟨nm, kd, tx, lo, hi⟩ := x
    rw [hr] at FD
    have FE : Calls Try.prog 26 #[.slice p l.length c, .func (.func 28) #[] #[]] w fun e w' => e = .returned (.tuple #[.string nm, .agg #[.int .i64 kd, .string tx, .int .i64 lo, .int .i64 hi], .bool true]) ∧ Hid (Below w.heap.size w w') := FD.mono fun e w' ⟨h1, h2⟩ => ⟨h1, below_of h2⟩
    clear FD hd
    go_enter Try.func13, Try.ntmps13
    go_wp2_with (go_at_call 26; refine FE.mono ?_; rintro e w1 ⟨rfl, b1⟩)
    refine bodyPost_ret (v := retS (some nm)) (by simp [results, Try.results13, go_sem, retS]) rfl ?_
    exact ⟨rfl, b1.out.alloc b1.out.size _⟩

set_option maxRecDepth 100000 in
set_option maxHeartbeats 2000000 in
theorem tooLong_any (v : Value) (l : List Df) (w : World) {F : Nat → Prop} (hd : IsDefs w F v l) (hT : Fit l) : Calls Try.prog 14 #[v] w fun e w' => e = .returned (.bool (tooLongT l)) ∧ Below w.heap.size w w' := by
  have hmf : ∀ (fn : Fn) (first cap : Array Value) (w : World), (Instr.makeFunc fn first cap).run Try.prog w = .ok (.func fn first cap) w := fun _ _ _ _ => rfl
  have hz : (w.alloc (.cells #[.int .i64 0] 3)).heap.size = w.heap.size + 1 := by simp
  have FD := findLong stopL stepL (fun n w' => n ≤ 1024 ∧ w'.cell? ⟨w.heap.size, 0, none⟩ = some (.int .i64 ((n : Nat) : Int)) ∧ w'.frozen? ⟨w.heap.size, 0, none⟩ = false) (some w.heap.size) w.heap.size w.heap.size (w.alloc (.cells #[.int .i64 0] 3))
    (fun n w' i h ht => (wantLong_any i ht n h.1 w.heap.size w' h.2.1 h.2.2).mono fun e w2 ⟨h1, h2, h3, h4⟩ => ⟨h1, h2, fun hs => ⟨by simpa [stopL, stepL] using hs, h3, h4⟩⟩)
    (fun n w1 w2 h1 h2 => ⟨h1.1, (h2.cell (p := ⟨_, _, none⟩) (cell_lt h1.2.1)).trans h1.2.1, (h2.frozen (p := ⟨_, _, none⟩) (cell_lt h1.2.1)).trans h1.2.2⟩)
    (fun b hb => by cases hb; rw [hz]; omega) (by rw [hz]; omega) v l (((lt_self hd).keep (F' := fun b => b < w.heap.size) ⟨by rw [hz]; omega, fun b hb => (bel1 w _).block b hb⟩ (fun b hb => hb))) hT 0 ⟨by omega, World.cell?_alloc_at _ _ _ _ rfl, World.frozen?_alloc_at _ _ _ _ rfl⟩
  obtain ⟨p, c, hv⟩ := hd.slc
  subst hv
  unfold tooLongT
  have fin : ∀ w', (w.alloc (.cells #[.int .i64 0] 3)).grownBy w' (some w.heap.size) → Below w.heap.size w w' := fun w' h => (bel1 w _).grown h (by rw [hz]; omega) (fun k hk => by cases hk; exact Nat.le_refl _)
  cases hr : findS stopL stepL 0 (flat l) with
  | none =>
    rw [hr] at FD
    have FE : Calls Try.prog 26 #[.slice p l.length c, .func (.func 29) #[] #[.pointer (some ⟨w.heap.size, 0, none⟩)]] (w.alloc (.cells #[.int .i64 0] 3)) fun e w' => e = .returned (.tuple #[.string ⟨#[]⟩, .agg #[.int .i64 0, .string ⟨#[]⟩, .int .i64 0, .int .i64 0], .bool false]) ∧ Hid (Below w.heap.size w w') := FD.mono fun e w' ⟨h1, h2⟩ => ⟨h1, fin _ h2⟩
    clear FD hd fin
    go_enter Try.func14, Try.ntmps14
    go_wp2_with (go_at_call 26; refine FE.mono ?_; rintro e w1 ⟨rfl, b1⟩)
    go_ret
    exact ⟨rfl, b1.out.alloc b1.out.size _⟩
  | some x =>
    obtain ⟨nm, kd, tx, lo, hi⟩ := x
    rw [hr] at FD
    have FE : Calls Try.prog 26 #[.slice p l.length c, .func (.func 29) #[] #[.pointer (some ⟨w.heap.size, 0, none⟩)]] (w.alloc (.cells #[.int .i64 0] 3)) fun e w' => e = .returned (.tuple #[.string nm, .agg #[.int .i64 kd, .string tx, .int .i64 lo, .int .i64 hi], .bool true]) ∧ Hid (Below w.heap.size w w') := FD.mono fun e w' ⟨h1, h2⟩ => ⟨h1, fin _ h2⟩
    clear FD hd fin
    go_enter Try.func14, Try.ntmps14
    go_wp2_with (go_at_call 26; refine FE.mono ?_; rintro e w1 ⟨rfl, b1⟩)
    go_ret
    exact ⟨rfl, b1.out.alloc b1.out.size _⟩
end Go.Proofs.Ytopnhbgialbicaa
/- The first name that nothing defines; the names that are defined. -/
namespace Go.Proofs.Ytopnhbgialbicaa
set_option linter.unusedVariables false
open Go.ChangeShapes Go.WideShapes Go.ChangeAt Go.RowKit Go.Maps

theorem find_at {α : Type} {p : α → Bool} {l : List α} {k : Nat} {a : α} (h : l[k]? = some a) (hn : ∀ x, x ∈ l.take k → p x = false) (hp : p a = true) : l.find? p = some a := by
  rw [← List.take_append_drop k l, List.find?_append, List.find?_eq_none.2 (fun x hx => by rw [hn x hx]; decide), drop_at h]
  simp [hp]
theorem find_no {α : Type} {p : α → Bool} {l : List α} (hn : ∀ x, x ∈ l → p x = false) : l.find? p = none := List.find?_eq_none.2 (fun x hx => by rw [hn x hx]; decide)
theorem take_mem {α : Type} {P : α → Prop} {l : List α} {k : Nat} {a : α} (h : l[k]? = some a) (hn : ∀ x, x ∈ l.take k → P x) (ha : P a) : ∀ x, x ∈ l.take (k + 1) → P x := by
  rw [take_snoc h]
  intro x hx
  rcases List.mem_append.1 hx with hx | hx
  · exact hn x hx
  · rw [List.mem_singleton.1 hx]; exact ha
set_option maxRecDepth 100000 in
set_option maxHeartbeats 4000000 in
theorem unknown_any (v1 v2 : Value) (r : Rw) (names : List ByteArray) (B : Nat) (w : World) {F : Nat → Prop} (h1 : IsTexts w F v1 r.starts) (h2 : IsDefs w F v2 r.defs) (hs : ∀ s, s ∈ r.starts → s.size ≤ maxLen) (hT : Fit r.defs) (hm : NMap w B names) (hB : B < w.heap.size) :
    Calls Try.prog 12 #[.agg #[v1, v2], .map (some B)] w fun e w' => e = .returned (retS (unknownT r names)) ∧ Below w.heap.size w w' := by
  have hmf : ∀ (fn : Fn) (first cap : Array Value) (w : World), (Instr.makeFunc fn first cap).run Try.prog w = .ok (.func fn first cap) w := fun _ _ _ _ => rfl
  obtain ⟨W3, hW3⟩ : ∃ W3, W3 = ((w.alloc (.cells #[v1, v2] 25)).alloc (.cells #[.map (some B)] 55)).alloc (.cells #[.func (.func 25) #[] #[.pointer (some ⟨w.heap.size + 1, 0, none⟩)]] 66) := ⟨_, rfl⟩
  have hz : W3.heap.size = w.heap.size + 3 := by rw [hW3]; simp
  have BW : Below w.heap.size w W3 := by rw [hW3]; exact (((Below.refl _ _).alloc (Nat.le_refl _) _).alloc (le_alloc _ _) _).alloc (Nat.le_trans (le_alloc _ _) (le_alloc _ _)) _
  have k0 : W3.cell? ⟨w.heap.size, 0, none⟩ = some v1 := by rw [hW3, World.cell?_alloc_past _ _ _ (by simp; omega), World.cell?_alloc_past _ _ _ (by simp), World.cell?_alloc_at _ _ _ _ rfl]; rfl
  have k1 : W3.cell? ⟨w.heap.size, 1, none⟩ = some v2 := by rw [hW3, World.cell?_alloc_past _ _ _ (by simp; omega), World.cell?_alloc_past _ _ _ (by simp), World.cell?_alloc_at _ _ _ _ rfl]; rfl
  have k2 : W3.cell? ⟨w.heap.size + 1, 0, none⟩ = some (.map (some B)) := by rw [hW3, World.cell?_alloc_past _ _ _ (by simp), World.cell?_alloc_at _ _ _ _ (by simp)]; rfl
  have k3 : W3.cell? ⟨w.heap.size + 1 + 1, 0, none⟩ = some (.func (.func 25) #[] #[.pointer (some ⟨w.heap.size + 1, 0, none⟩)]) := by rw [hW3, World.cell?_alloc_at _ _ _ _ (by simp)]; rfl
  have HM3 : NMap W3 B names := hm.keep BW hB
  have UK : ∀ s : ByteArray, s.size ≤ maxLen → Calls Try.prog 25 #[.string s, .pointer (some ⟨w.heap.size + 1, 0, none⟩)] W3 fun e w' => e = .returned (.bool (!known names s)) ∧ W3 = w' := fun s h => isUnknown_any s h names _ B W3 k2 HM3
  have FD := findName (stopN names) (fun _ _ => ()) (fun _ w' => Below W3.heap.size W3 w') none W3.heap.size (w.heap.size + 1 + 1) W3 (fun s w' i h ht => (wantName_any i (by unfold maxLen; omega) names (w.heap.size + 1 + 1) (w.heap.size + 1) B w' ((h.cell (p := ⟨_, _, none⟩) (by show w.heap.size + 1 + 1 < W3.heap.size; omega)).trans k3) ((h.cell (p := ⟨_, _, none⟩) (by show w.heap.size + 1 < W3.heap.size; omega)).trans k2) (HM3.keep h (by omega))).mono fun e w2 ⟨h1, h2⟩ => ⟨h1, grown_of _ h2, fun _ => h.trans (h2.mono h.size)⟩) (fun s w1 w2 h1 h2 => h1.trans (h2.mono h1.size)) (fun b hb => by cases hb) (Nat.le_refl _) v2 r.defs (lt_self (h2.any BW)) hT () (Below.refl _ _)
  have h3 := h1.any BW
  obtain ⟨p1, c1, hv1, hml, hca⟩ := h3
  obtain ⟨p2, c2, hv2⟩ := h2.slc
  subst hv1 hv2
  replace hml := hml.1
  unfold maxLen at hml
  have HA : Hid (0 < r.starts.length → ∃ g o, p1 = some ⟨g, o, none⟩ ∧ F g ∧ g < W3.heap.size ∧ (∀ j c, (txV r.starts)[j]? = some c → W3.cell? ⟨g, o + j, none⟩ = some c) ∧ ∀ j, j < ((txV r.starts)).length → W3.frozen? ⟨g, o + j, none⟩ = false) := hca
  have HS : Hid (∀ s, s ∈ r.starts → s.size ≤ maxLen) := hs
  have HUK : Hid (∀ s : ByteArray, s.size ≤ maxLen → Calls Try.prog 25 #[.string s, .pointer (some ⟨w.heap.size + 1, 0, none⟩)] W3 fun e w' => e = .returned (.bool (!known names s)) ∧ W3 = w') := UK
  have HFD : Hid (Calls Try.prog 26 #[.slice p2 r.defs.length c2, .func (.func 27) #[] #[.pointer (some ⟨w.heap.size + 1 + 1, 0, none⟩)]] W3 fun e w' => e = .returned (retF (findS (stopN names) (fun _ _ => ()) () (flat r.defs))) ∧ Below W3.heap.size W3 w') := FD.mono fun e w' ⟨h1, h2⟩ => ⟨h1, below_of h2⟩
  have HBW : Hid (Below w.heap.size w W3) := BW
  have HZ : Hid (W3.heap.size = w.heap.size + 3) := hz
  clear hca hs UK FD BW h1 h2 hm hB HM3 hT hz k2
  go_enter Try.func12, Try.ntmps12
  go_wp2
  rw [← hW3]
  clear hW3
  go_loopw [16] (fun i wr => ∃ k : Nat, k ≤ r.starts.length ∧ i = .int .i64 k ∧ wr = W3 ∧ Hid (∀ x, x ∈ r.starts.take k → (!known names x) = false)) (fun i _ => r.starts.length - (intOf i).toNat)
  case atStart => exact ⟨0, by omega, rfl, rfl, fun x hx => by simp at hx⟩
  case round =>
    obtain ⟨k, hk, rfl, rfl, HT⟩ := hrel
    by_cases hlt : k < r.starts.length
    · obtain ⟨s, ht⟩ : ∃ t, r.starts[k]? = some t := ⟨_, List.getElem?_eq_getElem hlt⟩
      obtain ⟨g1, o1, hp, -, hg1, ca, -⟩ := HA.out (by omega)
      subst hp
      have a0 := ca k (.string s) (by simp [txV, ht])
      have UK := HUK.out s (HS.out s (List.mem_of_getElem? ht))
      cases hkn : (!known names s) with
      | true =>
        rw [hkn] at UK
        have HN : Hid (unknownT r names = some s) := by show _ = _; unfold unknownT; rw [find_at ht HT.out hkn]
        clear ca ht hg1 hkn
        go_wp2_with (go_at_call 25; refine UK.mono ?_; rintro e w2 ⟨rfl, rfl⟩)
        refine bodyPost_ret (v := retS (some s)) (by simp [results, Try.results12, go_sem, retS]) rfl ?_
        exact ⟨by rw [HN.out], HBW.out⟩
      | false =>
        rw [hkn] at UK
        have HN : Hid (∀ x, x ∈ r.starts.take (k + 1) → (!known names x) = false) := take_mem ht HT.out hkn
        clear ca ht hg1 hkn
        go_wp2_with (go_at_call 25; refine UK.mono ?_; rintro e w2 ⟨rfl, rfl⟩)
        go_roundw
        case rel => exact ⟨k + 1, by omega, by go_num, by trivial, HN⟩
        case measure => simp [intOf]; omega
    · obtain rfl : k = r.starts.length := by omega
      have HT2 := HT.out
      rw [List.take_length] at HT2
      have E : unknownT r names = (findS (stopN names) (fun _ _ => ()) () (flat r.defs)).map fun x => x.2.text := by unfold unknownT; rw [find_no HT2]
      have HFD2 := HFD.out
      cases hr : findS (stopN names) (fun _ _ => ()) () (flat r.defs) with
      | none =>
        rw [hr] at HFD2 E
        have HN : Hid (unknownT r names = none) := E
        have FE : Calls Try.prog 26 #[.slice p2 r.defs.length c2, .func (.func 27) #[] #[.pointer (some ⟨w.heap.size + 1 + 1, 0, none⟩)]] wr fun e w' => e = .returned (.tuple #[.string ⟨#[]⟩, .agg #[.int .i64 0, .string ⟨#[]⟩, .int .i64 0, .int .i64 0], .bool false]) ∧ Hid (Below wr.heap.size wr w') := HFD2
        clear HFD2 hr HT2 E
        go_wp2_with (go_at_call 26; refine FE.mono ?_; rintro e w1 ⟨rfl, b1⟩)
        refine bodyPost_ret (v := retS none) (by simp [results, Try.results12, go_sem, retS]) rfl ?_
        exact ⟨by rw [HN.out], HBW.out.trans ((b1.out.alloc b1.out.size _).mono HBW.out.size)⟩
      | some x =>
        obtain ⟨nm, kd, tx, lo, hi⟩ := x
        rw [hr] at HFD2 E
        have HN : Hid (unknownT r names = some tx) := E
        have FE : Calls Try.prog 26 #[.slice p2 r.defs.length c2, .func (.func 27) #[] #[.pointer (some ⟨w.heap.size + 1 + 1, 0, none⟩)]] wr fun e w' => e = .returned (.tuple #[.string nm, .agg #[.int .i64 kd, .string tx, .int .i64 lo, .int .i64 hi], .bool true]) ∧ Hid (Below wr.heap.size wr w') := HFD2
        clear HFD2 hr HT2 E
        go_wp2_with (go_at_call 26; refine FE.mono ?_; rintro e w1 ⟨rfl, b1⟩)
        refine bodyPost_ret (v := retS (some tx)) (by simp [results, Try.results12, go_sem, retS]) rfl ?_
        exact ⟨by rw [HN.out], HBW.out.trans ((b1.out.alloc b1.out.size _).mono HBW.out.size)⟩
end Go.Proofs.Ytopnhbgialbicaa
