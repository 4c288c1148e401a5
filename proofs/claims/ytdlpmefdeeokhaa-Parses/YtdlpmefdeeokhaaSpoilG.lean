/- SpoilGrammar of templelaw0: writes over a grammar, and over nothing else. -/
import Derived.Test.YtdlpmefdeeokhaaGramLow
import Derived.Test.YtdlpmefdeeokhaaGramAid
import Derived.Deep.Cut
import Derived.Deep.RegionHeld3
import Derived.BigRegion
import Derived.Laws.Concat
namespace Go.Proofs.Ytdlpmefdeeokhaa
set_option linter.unusedVariables false
open Go.ChangeShapes Go.WideShapes Go.ChangeAt Go.RowKit

/-- Of one kind: a number, a truth, a text for another one; all else the same. -/
def Lk (v u : Value) : Prop := u = v ∨ (∃ a b, v = .int .i64 a ∧ u = .int .i64 b) ∨ (∃ a b, v = .bool a ∧ u = .bool b) ∨ ∃ a b, v = .string a ∧ u = .string b
theorem Lk.trans {v u x : Value} (h : Lk v u) (k : Lk u x) : Lk v x := by
  rcases h with rfl | ⟨a, b, rfl, rfl⟩ | ⟨a, b, rfl, rfl⟩ | ⟨a, b, rfl, rfl⟩
  · exact k
  · rcases k with rfl | ⟨c, d, e, rfl⟩ | ⟨c, d, e, rfl⟩ | ⟨c, d, e, rfl⟩
    · exact Or.inr (Or.inl ⟨a, b, rfl, rfl⟩)
    · exact Or.inr (Or.inl ⟨a, d, rfl, rfl⟩)
    · cases e
    · cases e
  · rcases k with rfl | ⟨c, d, e, rfl⟩ | ⟨c, d, e, rfl⟩ | ⟨c, d, e, rfl⟩
    · exact Or.inr (Or.inr (Or.inl ⟨a, b, rfl, rfl⟩))
    · cases e
    · exact Or.inr (Or.inr (Or.inl ⟨a, d, rfl, rfl⟩))
    · cases e
  · rcases k with rfl | ⟨c, d, e, rfl⟩ | ⟨c, d, e, rfl⟩ | ⟨c, d, e, rfl⟩
    · exact Or.inr (Or.inr (Or.inr ⟨a, b, rfl, rfl⟩))
    · cases e
    · cases e
    · exact Or.inr (Or.inr (Or.inr ⟨a, d, rfl, rfl⟩))
theorem Lk.int {a : Int} {u : Value} (h : Lk (.int .i64 a) u) : ∃ b, u = .int .i64 b := by
  rcases h with rfl | ⟨c, d, e, rfl⟩ | ⟨c, d, e, rfl⟩ | ⟨c, d, e, rfl⟩
  · exact ⟨_, rfl⟩
  · exact ⟨_, rfl⟩
  · cases e
  · cases e
theorem Lk.bool {a : Bool} {u : Value} (h : Lk (.bool a) u) : ∃ b, u = .bool b := by
  rcases h with rfl | ⟨c, d, e, rfl⟩ | ⟨c, d, e, rfl⟩ | ⟨c, d, e, rfl⟩
  · exact ⟨_, rfl⟩
  · cases e
  · exact ⟨_, rfl⟩
  · cases e
theorem Lk.slice {p : Option Addr} {n c : Nat} {u : Value} (h : Lk (.slice p n c) u) : u = .slice p n c := by
  rcases h with rfl | ⟨c, d, e, rfl⟩ | ⟨c, d, e, rfl⟩ | ⟨c, d, e, rfl⟩
  · rfl
  · cases e
  · cases e
  · cases e
/-- Written over: in the blocks F alone, each cell by one of its kind. -/
structure Sp (F : Nat → Prop) (w w' : World) : Prop where
  os : w'.os = w.os
  tape : w'.tape = w.tape
  output : w'.output = w.output
  size : w.heap.size ≤ w'.heap.size
  block : ∀ i, i < w.heap.size → ¬ F i → w'.heap[i]? = w.heap[i]?
  like : ∀ b j v, w.cell? ⟨b, j, none⟩ = some v → ∃ u, w'.cell? ⟨b, j, none⟩ = some u ∧ Lk v u
  froz : ∀ b j, b < w.heap.size → w'.frozen? ⟨b, j, none⟩ = w.frozen? ⟨b, j, none⟩
section
variable {F : Nat → Prop} {w w' w'' : World}
theorem spCell_lt {b j : Nat} {v : Value} (h : w.cell? ⟨b, j, none⟩ = some v) : b < w.heap.size := by
  by_cases hh : b < w.heap.size
  · exact hh
  · unfold World.cell? at h
    rw [Array.getElem?_eq_none (by simpa using hh)] at h; cases h
theorem Sp.of (h : Below w.heap.size w w') : Sp F w w' := ⟨h.os, h.tape, h.output, h.size, fun i hi _ => h.block i hi, fun b j v hv => ⟨v, (h.cell (p := ⟨_, _, none⟩) (spCell_lt hv)).trans hv, Or.inl rfl⟩, fun b j hb => h.frozen (p := ⟨b, j, none⟩) hb⟩
theorem Sp.refl (F : Nat → Prop) (w : World) : Sp F w w := Sp.of (Below.refl _ _)
theorem Sp.trans (h : Sp F w w') (k : Sp F w' w'') : Sp F w w'' :=
  ⟨k.os.trans h.os, k.tape.trans h.tape, k.output.trans h.output, Nat.le_trans h.size k.size, fun i hi hF => (k.block i (Nat.lt_of_lt_of_le hi h.size) hF).trans (h.block i hi hF), fun b j v hv => by
    obtain ⟨u, h1, h2⟩ := h.like b j v hv
    obtain ⟨x, h3, h4⟩ := k.like b j u h1
    exact ⟨x, h3, h2.trans h4⟩, fun b j hb => (k.froz b j (Nat.lt_of_lt_of_le hb h.size)).trans (h.froz b j hb)⟩
theorem Sp.set {b j : Nat} {v u : Value} (hF : F b) (hv : w.cell? ⟨b, j, none⟩ = some v) (hl : Lk v u) : Sp F w (w.setCell ⟨b, j, none⟩ u) := by
  refine ⟨rfl, rfl, rfl, by simp [World.setCell], fun i hi hn => Go.Deep.blk_setCell_other w ⟨b, j, none⟩ u i (fun e => hn (by rw [e]; exact hF)), fun b' j' v' hv' => ?_, fun b' j' _ => World.frozen?_setCell _ _ _ _⟩
  by_cases e : (⟨b', j', none⟩ : Addr) = ⟨b, j, none⟩
  · injection e with e1 e2
    subst e1 e2
    rw [hv] at hv'
    injection hv' with hv'
    subst hv'
    exact ⟨u, World.cell?_setCell_same _ _ _ hv, hl⟩
  · exact ⟨v', (World.cell?_setCell_other _ _ _ _ (Ne.symm e)).trans hv', Or.inl rfl⟩
end
set_option maxHeartbeats 2000000 in
set_option maxRecDepth 100000 in
theorem spoilTexts_any (v : Value) (l : List ByteArray) (w : World) {F : Nat → Prop} (h : IsTexts w F v l) (hs : ∀ s, s ∈ l → s.size ≤ 9000000000000000000) : Calls Try.prog 16 #[v] w fun e w' => e = .returned (.tuple #[]) ∧ Hid (Sp F w w') := by
  obtain ⟨p, cp, hv, hm, hc⟩ := h
  subst hv
  have hm2 := hm.1
  unfold maxLen at hm2
  obtain ⟨n, hn⟩ : ∃ n, n = l.length := ⟨_, rfl⟩
  have HC : Hid (0 < n → ∃ g o, p = some ⟨g, o, none⟩ ∧ F g ∧ ∀ j, j < n → ∃ s : ByteArray, s.size ≤ 9000000000000000000 ∧ w.cell? ⟨g, o + j, none⟩ = some (.string s) ∧ w.frozen? ⟨g, o + j, none⟩ = false) := fun h0 => by
    obtain ⟨g, o, e, hF, _, cc, ff⟩ := hc (by omega)
    refine ⟨g, o, e, hF, fun j hj => ?_⟩
    obtain ⟨x, hx⟩ : ∃ x, l[j]? = some x := ⟨_, List.getElem?_eq_getElem (by omega)⟩
    exact ⟨x, hs x (List.mem_of_getElem? hx), cc _ _ (by unfold txV; rw [List.getElem?_map, hx]; rfl), ff _ (by unfold txV; simp; omega)⟩
  rw [← hn] at hm2 ⊢
  clear hc hm hn hs
  go_enter Try.func16, Try.ntmps16
  go_wp2
  go_loopw [2] (fun i wr => ∃ k : Nat, k ≤ n ∧ i = .int .i64 k ∧ Hid (Sp F w wr) ∧ Hid (0 < n → ∃ g o, p = some ⟨g, o, none⟩ ∧ F g ∧ ∀ j, k ≤ j → j < n → ∃ s : ByteArray, s.size ≤ 9000000000000000000 ∧ wr.cell? ⟨g, o + j, none⟩ = some (.string s) ∧ wr.frozen? ⟨g, o + j, none⟩ = false)) (fun i _ => n - (intOf i).toNat)
  case atStart => exact ⟨0, Nat.zero_le _, rfl, Sp.refl _ _, fun h0 => by obtain ⟨g, o, e, hF, hh⟩ := HC.out h0; exact ⟨g, o, e, hF, fun j _ hj => hh j hj⟩⟩
  case round =>
    obtain ⟨k, hk, rfl, HS, HK⟩ := hrel
    by_cases hlt : k < n
    · obtain ⟨g, o, hp, hF, hh⟩ := HK.out (by omega)
      subst hp
      obtain ⟨s, hs9, c0, f0⟩ := hh k (Nat.le_refl _) hlt
      obtain ⟨tl, htl⟩ : ∃ tl : ByteArray, tl = ⟨#[126]⟩ := ⟨_, rfl⟩
      have htz : tl.size = 1 := by rw [htl]; rfl
      have ha1 := fun (w : World) => run_string_add_sum (P := Try.prog) (w := w) ⟨#[126]⟩ s (by have : (⟨#[126]⟩ : ByteArray).size = 1 := rfl; omega)
      have HS2 : Hid (Sp F w (wr.setCell ⟨g, o + k, none⟩ (.string (⟨#[126]⟩ ++ s)))) := HS.out.trans (Sp.set hF c0 (Or.inr (Or.inr (Or.inr ⟨_, _, rfl, rfl⟩))))
      obtain ⟨sx, hsx⟩ : ∃ sx : ByteArray, sx = ⟨#[126]⟩ ++ s := ⟨_, rfl⟩
      have HK2 : Hid (∀ j, k + 1 ≤ j → j < n → ∃ s : ByteArray, s.size ≤ 9000000000000000000 ∧ (wr.setCell ⟨g, o + k, none⟩ (.string sx)).cell? ⟨g, o + j, none⟩ = some (.string s) ∧ (wr.setCell ⟨g, o + k, none⟩ (.string sx)).frozen? ⟨g, o + j, none⟩ = false) := fun j hj hjn => by
        obtain ⟨s2, h1, c2, f2⟩ := hh j (by omega) hjn
        refine ⟨s2, h1, ?_, ?_⟩
        · rw [World.cell?_setCell_other _ _ _ _ (fun e => by injection e with _ e2; omega)]; exact c2
        · rw [World.frozen?_setCell]; exact f2
      have HFG : Hid (F g) := hF
      rw [← hsx] at ha1 HS2
      clear hh hF hsx htl htz HS HK
      go_wp2
      go_roundw
      case rel => exact ⟨k + 1, by omega, by go_num, HS2, fun _ => ⟨g, o, rfl, HFG.out, HK2.out⟩⟩
      case measure => simp [intOf]; omega
    · obtain rfl : k = n := by omega
      go_wp2
      go_end0
      exact ⟨rfl, HS⟩
theorem IsRus.rowF {w : World} {F : Nat → Prop} {p : Option Addr} {n c : Nat} {l : List Ru} (h : IsRus w F (.slice p n c) l) {k : Nat} {r : Ru} (hk : l[k]? = some r) : ∃ g o u, p = some ⟨g, o, none⟩ ∧ F g ∧ g < w.heap.size ∧ w.cell? ⟨g, o + k * 2, none⟩ = some (.int .i64 r.head) ∧ w.frozen? ⟨g, o + k * 2, none⟩ = false ∧ w.cell? ⟨g, o + k * 2 + 1, none⟩ = some u ∧ IsCns w F u r.conj := by
  obtain ⟨vs, ⟨p2, c2, e2, _, hc⟩, hl, hi⟩ := h
  injection e2 with e3
  subst e3
  have hlt := (List.getElem?_eq_some_iff.1 hk).1
  obtain ⟨g, o, e, hF, hg, cc, ff⟩ := hc (by omega)
  obtain ⟨u, hu⟩ : ∃ u, vs[k]? = some u := ⟨_, List.getElem?_eq_getElem (by omega)⟩
  obtain ⟨a0, a1⟩ := rusV_at l vs k r u hk hu
  exact ⟨g, o, u, e, hF, hg, cc _ _ a0, ff _ (List.getElem?_eq_some_iff.1 a0).1, by rw [Nat.add_assoc]; exact cc _ _ a1, hi k r u hk hu⟩
theorem IsCns.rowF {w : World} {F : Nat → Prop} {p : Option Addr} {n c : Nat} {l : List Cn} (h : IsCns w F (.slice p n c) l) {k : Nat} {r : Cn} (hk : l[k]? = some r) : ∃ g o u, p = some ⟨g, o, none⟩ ∧ F g ∧ g < w.heap.size ∧ w.cell? ⟨g, o + k * 2, none⟩ = some (.bool r.neg) ∧ w.frozen? ⟨g, o + k * 2, none⟩ = false ∧ w.cell? ⟨g, o + k * 2 + 1, none⟩ = some u ∧ IsSys w F u r.seq := by
  obtain ⟨vs, ⟨p2, c2, e2, _, hc⟩, hl, hi⟩ := h
  injection e2 with e3
  subst e3
  have hlt := (List.getElem?_eq_some_iff.1 hk).1
  obtain ⟨g, o, e, hF, hg, cc, ff⟩ := hc (by omega)
  obtain ⟨u, hu⟩ : ∃ u, vs[k]? = some u := ⟨_, List.getElem?_eq_getElem (by omega)⟩
  obtain ⟨a0, a1⟩ := cnsV_at l vs k r u hk hu
  exact ⟨g, o, u, e, hF, hg, cc _ _ a0, ff _ (List.getElem?_eq_some_iff.1 a0).1, by rw [Nat.add_assoc]; exact cc _ _ a1, hi k r u hk hu⟩
theorem IsSys.allF {w : World} {F : Nat → Prop} {v : Value} {l : List Sy} (h : IsSys w F v l) : ∃ p c, v = .slice p l.length c ∧ l.length ≤ maxLen ∧ (0 < l.length → ∃ g o, p = some ⟨g, o, none⟩ ∧ F g ∧ g < w.heap.size ∧ ∀ j, j < l.length → ∃ z, w.cell? ⟨g, o + j * 3, none⟩ = some (.int .i64 z) ∧ w.frozen? ⟨g, o + j * 3, none⟩ = false) := by
  obtain ⟨p, c, e, hm, hc⟩ := h
  refine ⟨p, c, e, hm.1, fun h0 => ?_⟩
  obtain ⟨g, o, e1, hF, hg, cc, ff⟩ := hc h0
  refine ⟨g, o, e1, hF, hg, fun j hj => ?_⟩
  obtain ⟨x, hx⟩ : ∃ x, l[j]? = some x := ⟨_, List.getElem?_eq_getElem hj⟩
  have h1 := (sysV_at l j x hx).1
  exact ⟨_, cc _ _ h1, ff _ (List.getElem?_eq_some_iff.1 h1).1⟩
theorem Sp.mono {F G : Nat → Prop} {w w' : World} (h : Sp F w w') (hm : ∀ i, F i → G i) : Sp G w w' := ⟨h.os, h.tape, h.output, h.size, fun i hi hn => h.block i hi (fun hF => hn (hm i hF)), h.like, h.froz⟩
theorem Sp.slc {F : Nat → Prop} {w w' : World} (h : Sp F w w') {b j n c : Nat} {p : Option Addr} (hv : w.cell? ⟨b, j, none⟩ = some (.slice p n c)) : w'.cell? ⟨b, j, none⟩ = some (.slice p n c) := by
  obtain ⟨u, h1, h2⟩ := h.like b j _ hv
  rw [h1, h2.slice]
theorem lngS {w : World} {F : Nat → Prop} {v : Value} {l : List Cn} (h : IsCns w F v l) : ∃ p c, v = .slice p l.length c ∧ l.length ≤ maxLen := by
  obtain ⟨_, ⟨p, c, e, hm, _⟩, _⟩ := h
  exact ⟨p, c, e, hm.1⟩
end Go.Proofs.Ytdlpmefdeeokhaa
