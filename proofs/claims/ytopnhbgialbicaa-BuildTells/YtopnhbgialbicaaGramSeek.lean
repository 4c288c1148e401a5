import Derived.Test.YtopnhbgialbicaaGramMayG
/- Closures over items, and the search for the first that is wanted. -/
namespace Go.Proofs.Ytopnhbgialbicaa
set_option linter.unusedVariables false
open Go.ChangeShapes Go.WideShapes Go.ChangeAt Go.RowKit Go.Maps

def itA (i : It) : Value := .agg #[.int .i64 i.kind, .string i.text, .int .i64 i.lo, .int .i64 i.hi]
theorem grown_of {w w' : World} (row : Option Nat) (h : Below w.heap.size w w') : w.grownBy w' row := ⟨h.1, h.2, h.3, h.size, fun i hi _ => h.block i hi⟩
theorem below_of {w w' : World} (h : w.grownBy w' none) : Below w.heap.size w w' := (Below.refl _ _).grown h (Nat.le_refl _) (fun k hk => by cases hk)
theorem gfro {w w' : World} {row : Option Nat} (hg : w.grownBy w' row) {b j : Nat} (hb : b < w.heap.size) (h : w.frozen? ⟨b, j, none⟩ = false) (hne : some b ≠ row) : w'.frozen? ⟨b, j, none⟩ = false := (World.frozen?_of_block (a := ⟨b, j, none⟩) (hg.block b hb hne)).trans h
section
variable {w : World} {F F' : Nat → Prop}
theorem Reads.mono {v : Value} {n : Nat} {cs : List Value} (h : Reads w F v n cs) (hm : ∀ b, F b → b < w.heap.size → F' b) : Reads w F' v n cs := by
  obtain ⟨p, cap, hv, hmx, hc⟩ := h
  refine ⟨p, cap, hv, hmx, fun hn => ?_⟩
  obtain ⟨g, o, hp, hF, hg, hx⟩ := hc hn
  exact ⟨g, o, hp, hm g hF hg, hg, hx⟩
theorem IsCjs.mono {v : Value} {l : List Cj} (h : IsCjs w F v l) (hm : ∀ b, F b → b < w.heap.size → F' b) : IsCjs w F' v l := by
  obtain ⟨vs, h1, h2, h3⟩ := h
  exact ⟨vs, h1.mono hm, h2, fun k c u e1 e2 => Reads.mono (h3 k c u e1 e2) hm⟩
theorem IsAlts.mono {v : Value} {l : List (List Cj)} (h : IsAlts w F v l) (hm : ∀ b, F b → b < w.heap.size → F' b) : IsAlts w F' v l := by
  obtain ⟨vs, h1, h2, h3⟩ := h
  exact ⟨vs, h1.mono hm, h2, fun k c u e1 e2 => (h3 k c u e1 e2).mono hm⟩
theorem IsDefs.mono {v : Value} {l : List Df} (h : IsDefs w F v l) (hm : ∀ b, F b → b < w.heap.size → F' b) : IsDefs w F' v l := by
  obtain ⟨vs, h1, h2, h3⟩ := h
  exact ⟨vs, h1.mono hm, h2, fun k c u e1 e2 => (h3 k c u e1 e2).mono hm⟩
end
theorem IsCjs.slc {w : World} {F : Nat → Prop} {v : Value} {l : List Cj} (h : IsCjs w F v l) : ∃ p c, v = .slice p l.length c := by
  obtain ⟨_, h, _⟩ := h
  exact h.slc
theorem IsAlts.slc {w : World} {F : Nat → Prop} {v : Value} {l : List (List Cj)} (h : IsAlts w F v l) : ∃ p c, v = .slice p l.length c := by
  obtain ⟨_, h, _⟩ := h
  exact h.slc
theorem IsDefs.slc {w : World} {F : Nat → Prop} {v : Value} {l : List Df} (h : IsDefs w F v l) : ∃ p c, v = .slice p l.length c := by
  obtain ⟨_, h, _⟩ := h
  exact h.slc
/-- What find hands back. -/
def retF : Option (ByteArray × It) → Value
  | none => .tuple #[.string ⟨#[]⟩, .agg #[.int .i64 0, .string ⟨#[]⟩, .int .i64 0, .int .i64 0], .bool false]
  | some (n, i) => .tuple #[.string n, itA i, .bool true]

set_option maxRecDepth 100000 in
theorem isUnknown_any (s : ByteArray) (hs : s.size ≤ maxLen) (l : List ByteArray) (bn B : Nat) (w : World) (hc : w.cell? ⟨bn, 0, none⟩ = some (.map (some B))) (hm : NMap w B l) :
    Calls Try.prog 25 #[.string s, .pointer (some ⟨bn, 0, none⟩)] w fun e w' => e = .returned (.bool (!known l s)) ∧ w = w' := by
  obtain ⟨D, hown, hD, hd⟩ := hm
  have hkey : keyOf Try.prog 9 (.string s) = some (litS s) := WideMaps.keyOf_string_mk Try.underlying9 hs
  have hh := (hd s).1
  clear hD hd
  cases hk : known l s with
  | true =>
    rw [hk] at hh
    go_enter Try.func25, Try.ntmps25
    go_wp2_with (at_lookup; refine wpList_lookup_own_ok_int _ rfl _ _ 55 rfl 9 3 .i64 Try.keyed Try.underMap Try.underlying3 (Try.zeroInt _) B _ D rfl hown _ _ rfl hkey ?_; intro c hat hwc; rw [hh])
    go_ret
    exact ⟨rfl, rfl⟩
  | false =>
    rw [hk] at hh
    go_enter Try.func25, Try.ntmps25
    go_wp2_with (at_lookup; refine wpList_lookup_own_ok_int _ rfl _ _ 55 rfl 9 3 .i64 Try.keyed Try.underMap Try.underlying3 (Try.zeroInt _) B _ D rfl hown _ _ rfl hkey ?_; intro c hat hwc; rw [hh])
    go_ret
    exact ⟨rfl, rfl⟩

set_option maxRecDepth 100000 in
set_option maxHeartbeats 2000000 in
theorem wantName_any (i : It) (hs : i.text.size ≤ maxLen) (l : List ByteArray) (bf bn B : Nat) (w : World) (hf : w.cell? ⟨bf, 0, none⟩ = some (.func (.func 25) #[] #[.pointer (some ⟨bn, 0, none⟩)])) (hc : w.cell? ⟨bn, 0, none⟩ = some (.map (some B))) (hm : NMap w B l) :
    Calls Try.prog 27 #[itA i, .pointer (some ⟨bf, 0, none⟩)] w fun e w' => e = .returned (.bool (stopN l () i)) ∧ Below w.heap.size w w' := by
  obtain ⟨kd, tx, lo, hi⟩ := i
  have E : stopN l () ⟨kd, tx, lo, hi⟩ = (decide (kd = 0) && !known l tx) := rfl
  rw [E]
  show Calls Try.prog 27 #[.agg #[.int .i64 kd, .string tx, .int .i64 lo, .int .i64 hi], .pointer (some ⟨bf, 0, none⟩)] w _
  have hfl := cell_lt hf
  have hcl := cell_lt hc
  obtain ⟨_, ⟨_, _, hbl, _⟩, _⟩ := id hm
  have hBl : B < w.heap.size := by
    by_cases h : B < w.heap.size
    · exact h
    · rw [Array.getElem?_eq_none (by omega)] at hbl; cases hbl
  have UK : ∀ o, Calls Try.prog 25 #[.string tx, .pointer (some ⟨bn, 0, none⟩)] (w.alloc o) fun e w' => e = .returned (.bool (!known l tx)) ∧ w.alloc o = w' := fun o => isUnknown_any tx hs l bn B _ ((World.cell?_alloc_past _ _ _ hcl).trans hc) (hm.keep (bel1 w o) hBl)
  clear hm hbl
  by_cases h0 : kd = 0
  · subst h0
    rw [show (decide ((0 : Int) = 0) && !known l tx) = !known l tx by simp]
    cases hk : (!known l tx) with
    | true =>
      rw [hk] at UK
      clear hk
      go_enter Try.func27, Try.ntmps27
      go_wp2_with (go_at_call 25; refine (UK _).mono ?_; rintro e w2 ⟨rfl, rfl⟩)
      go_ret
      exact ⟨rfl, bel1 _ _⟩
    | false =>
      rw [hk] at UK
      clear hk
      go_enter Try.func27, Try.ntmps27
      go_wp2_with (go_at_call 25; refine (UK _).mono ?_; rintro e w2 ⟨rfl, rfl⟩)
      go_ret
      exact ⟨rfl, bel1 _ _⟩
  · rw [show (decide (kd = 0) && !known l tx) = false by simp [h0]]
    have h0' : (kd == 0) = false := by simp [h0]
    go_enter Try.func27, Try.ntmps27
    go_wp2
    go_ret
    exact ⟨rfl, bel1 _ _⟩

set_option maxRecDepth 100000 in
theorem wantRange_any (i : It) (w : World) : Calls Try.prog 28 #[itA i] w fun e w' => e = .returned (.bool (stopR () i)) ∧ Below w.heap.size w w' := by
  obtain ⟨kd, tx, lo, hi⟩ := i
  have E : stopR () ⟨kd, tx, lo, hi⟩ = (decide (kd = 2) && decide (hi < lo)) := rfl
  rw [E]
  show Calls Try.prog 28 #[.agg #[.int .i64 kd, .string tx, .int .i64 lo, .int .i64 hi]] w _
  by_cases h0 : kd = 2
  · subst h0
    by_cases h1 : hi < lo
    · rw [show (decide ((2 : Int) = 2) && decide (hi < lo)) = true by simp [h1]]
      go_enter Try.func28, Try.ntmps28
      go_wp2
      go_ret
      exact ⟨by simp [go_sem], bel1 _ _⟩
    · rw [show (decide ((2 : Int) = 2) && decide (hi < lo)) = false by simp [h1]]
      go_enter Try.func28, Try.ntmps28
      go_wp2
      go_ret
      exact ⟨by simp [go_sem], bel1 _ _⟩
  · rw [show (decide (kd = 2) && decide (hi < lo)) = false by simp [h0]]
    have h0' : (kd == 2) = false := by simp [h0]
    go_enter Try.func28, Try.ntmps28
    go_wp2
    go_ret
    exact ⟨rfl, bel1 _ _⟩

set_option maxRecDepth 100000 in
theorem width_any (i : It) (hs : i.text.size ≤ maxLen) (w : World) : Calls Try.prog 30 #[itA i] w fun e w' => e = .returned (.int .i64 (width i : Int)) ∧ ∃ o, w' = w.alloc o := by
  obtain ⟨kd, tx, lo, hi⟩ := i
  have E : width ⟨kd, tx, lo, hi⟩ = if kd = 1 then tx.size else 1 := rfl
  rw [E]
  show Calls Try.prog 30 #[.agg #[.int .i64 kd, .string tx, .int .i64 lo, .int .i64 hi]] w _
  by_cases h0 : kd = 1
  · subst h0
    rw [if_pos rfl]
    go_enter Try.func30, Try.ntmps30
    go_wp2
    go_ret
    exact ⟨rfl, _, rfl⟩
  · rw [if_neg h0]
    have h0' : (kd == 1) = false := by simp [h0]
    go_enter Try.func30, Try.ntmps30
    go_wp2
    go_ret
    exact ⟨rfl, _, rfl⟩
end Go.Proofs.Ytopnhbgialbicaa
/- The search for the first item that is wanted, with each of the three closures. -/
namespace Go.Proofs.Ytopnhbgialbicaa
set_option linter.unusedVariables false
open Go.ChangeShapes Go.WideShapes Go.ChangeAt Go.RowKit Go.Maps

theorem grown_set (w : World) (b j : Nat) (v : Value) : w.grownBy (w.setCell ⟨b, j, none⟩ v) (some b) :=
  ⟨rfl, rfl, rfl, by simp [World.setCell], fun i hi hne => Go.Deep.blk_setCell_other w ⟨b, j, none⟩ v i (fun e => hne (by rw [e]))⟩
set_option maxRecDepth 100000 in
set_option maxHeartbeats 2000000 in
theorem wantLong_any (i : It) (hs : i.text.size ≤ 140737488355328) (n : Nat) (hn : n ≤ 1024) (bs : Nat) (w : World) (hc : w.cell? ⟨bs, 0, none⟩ = some (.int .i64 (n : Int))) (hf : w.frozen? ⟨bs, 0, none⟩ = false) :
    Calls Try.prog 29 #[itA i, .pointer (some ⟨bs, 0, none⟩)] w fun e w' => e = .returned (.bool (stopL n i)) ∧ w.grownBy w' (some bs) ∧ w'.cell? ⟨bs, 0, none⟩ = some (.int .i64 ((n + width i : Nat) : Int)) ∧ w'.frozen? ⟨bs, 0, none⟩ = false := by
  have hw : width i ≤ 140737488355328 := by unfold width; split <;> omega
  have hlt := cell_lt hc
  have WD := fun w => width_any i (by unfold maxLen; omega) w
  obtain ⟨kd, tx, lo, hi⟩ := i
  show Calls Try.prog 29 #[.agg #[.int .i64 kd, .string tx, .int .i64 lo, .int .i64 hi], .pointer (some ⟨bs, 0, none⟩)] w _
  have E : stopL n ⟨kd, tx, lo, hi⟩ = decide (1024 < n + width ⟨kd, tx, lo, hi⟩) := rfl
  rw [E]
  generalize width ⟨kd, tx, lo, hi⟩ = wd at hw WD ⊢
  have WE : ∀ w, Calls Try.prog 30 #[.agg #[.int .i64 kd, .string tx, .int .i64 lo, .int .i64 hi]] w fun e w' => e = .returned (.int .i64 (wd : Int)) ∧ ∃ o, w' = w.alloc o := WD
  clear WD E
  have FIN : Hid (∀ w', Below w.heap.size (w.setCell ⟨bs, 0, none⟩ (.int .i64 ((n : Int) + (wd : Int)))) w' → w.grownBy w' (some bs) ∧ w'.cell? ⟨bs, 0, none⟩ = some (.int .i64 ((n + wd : Nat) : Int)) ∧ w'.frozen? ⟨bs, 0, none⟩ = false) := by
    intro w' hb
    have hz : (w.setCell ⟨bs, 0, none⟩ (.int .i64 ((n : Int) + (wd : Int)))).heap.size = w.heap.size := by simp [World.setCell]
    exact ⟨(grown_set w bs 0 _).trans (grown_of _ (hz.symm ▸ hb)), (hb.cell (p := ⟨_, _, none⟩) hlt).trans (World.cell?_setCell_same _ _ _ hc), (hb.frozen (p := ⟨_, _, none⟩) hlt).trans ((World.frozen?_setCell _ _ _ _).trans hf)⟩
  have hz : (w.setCell ⟨bs, 0, none⟩ (.int .i64 ((n : Int) + (wd : Int)))).heap.size = w.heap.size := by simp [World.setCell]
  have BB : Hid (∀ o o', Below w.heap.size (w.setCell ⟨bs, 0, none⟩ (.int .i64 ((n : Int) + (wd : Int)))) (((w.setCell ⟨bs, 0, none⟩ (.int .i64 ((n : Int) + (wd : Int)))).alloc o).alloc o').drew) := fun o o' => (((Below.refl _ _).alloc (Nat.le_of_eq hz.symm) _).alloc (Nat.le_trans (Nat.le_of_eq hz.symm) (le_alloc _ _)) _).drew
  clear hz
  by_cases h : 1024 < n + wd
  · rw [show decide (1024 < n + wd) = true by simp [h]]
    have h' : (1024 : Int) < (n : Int) + (wd : Int) := by omega
    go_enter Try.func29, Try.ntmps29
    go_wp2
    go_region_with (go_at_call 30; refine (WE _).mono ?_; rintro e w2 ⟨rfl, o, rfl⟩)
    all_goals go_wp2
    all_goals go_ret
    all_goals exact ⟨by simp [go_sem], FIN.out _ (BB.out _ _)⟩
  · rw [show decide (1024 < n + wd) = false by simp [h]]
    have h' : ¬ (1024 : Int) < (n : Int) + (wd : Int) := by omega
    go_enter Try.func29, Try.ntmps29
    go_wp2
    go_region_with (go_at_call 30; refine (WE _).mono ?_; rintro e w2 ⟨rfl, o, rfl⟩)
    all_goals go_wp2
    all_goals go_ret
    all_goals exact ⟨by simp [go_sem, h'], FIN.out _ (BB.out _ _)⟩

theorem flatD_drop {n : ByteArray} {l : List (List Cj)} {k : Nat} {a : List Cj} (h : l[k]? = some a) (m : List (ByteArray × It)) : (l.drop k).flatMap (flatA n) ++ m = flatA n a ++ ((l.drop (k + 1)).flatMap (flatA n) ++ m) := by
  rw [drop_at h, List.flatMap_cons, List.append_assoc]
theorem flatA_drop {n : ByteArray} {l : List Cj} {k : Nat} {a : Cj} (h : l[k]? = some a) (m : List (ByteArray × It)) : (l.drop k).flatMap (flatC n) ++ m = flatC n a ++ ((l.drop (k + 1)).flatMap (flatC n) ++ m) := by
  rw [drop_at h, List.flatMap_cons, List.append_assoc]
theorem flat_drop {l : List Df} {k : Nat} {d : Df} (h : l[k]? = some d) : (l.drop k).flatMap flatD = flatD d ++ (l.drop (k + 1)).flatMap flatD := by
  rw [drop_at h, List.flatMap_cons]
theorem flatC_drop {n : ByteArray} {l : List It} {k : Nat} {i : It} (h : l[k]? = some i) (m : List (ByteArray × It)) : (l.drop k).map (fun i => (n, i)) ++ m = (n, i) :: ((l.drop (k + 1)).map (fun i => (n, i)) ++ m) := by
  rw [drop_at h]; rfl
/-- All texts of items are no longer than memory. -/
def Fit (l : List Df) : Prop := ∀ d, d ∈ l → ∀ a, a ∈ d.alts → ∀ c, c ∈ a → ∀ i, i ∈ c.items → i.text.size ≤ 140737488355328
theorem grown_stay {w w' : World} {row : Option Nat} {B : Nat} (h : w.grownBy w' row) (hr : ∀ b, row = some b → B ≤ b) (hB : B ≤ w.heap.size) : Stay (fun b => b < B) w w' :=
  ⟨h.size, fun b hb => h.block b (Nat.lt_of_lt_of_le hb hB) (fun e => by have := hr b e.symm; omega)⟩

end Go.Proofs.Ytopnhbgialbicaa
