import Derived.Test.YtgeajdfajfdjcaaRows
import Derived.SizedLaws
import Derived.ChangeMaps5
import Derived.ChangeSlices
import Derived.Carry
import Derived.ProofKit
import Derived.OpenShut
/- Arguments of a law: a text, a row of numbers: opened. -/
namespace Go.Proofs.Ytgeajdfajfdjcaa
open Go.ChangeShapes Go.WideShapes Go.ChangeAt Go.RowKit

theorem Try.laidOutB : laidOutB Try.prog = true := by kernel_rfl
theorem Try.cellsInt : Try.prog.cellsOf 3 = 1 := by kernel_rfl
theorem Try.bytesInt : Try.prog.bytesOf 3 = 8 := by kernel_rfl

/-- Slice v of w is the numbers zs. -/
def IRow (w : World) (v : Value) (zs : List Int) : Prop :=
  ∃ p cap, v = .slice p zs.length cap ∧ zs.length ≤ cap ∧ ∀ k z, zs[k]? = some z → ∃ g o, p = some ⟨g, o, none⟩ ∧ g < w.heap.size ∧ w.cell? ⟨g, o + k, none⟩ = some (.int .i64 z)
theorem cell_in {w : World} {b j : Nat} {v : Value} (h : w.cell? ⟨b, j, none⟩ = some v) : b < w.heap.size := by
  by_cases hb : b < w.heap.size
  · exact hb
  · exfalso
    have e : w.heap[b]? = none := Array.getElem?_eq_none (by omega)
    simp [World.cell?, e] at h
theorem IRow.keep {w w' : World} {v : Value} {zs : List Int} (h : IRow w v zs) (hb : Below w.heap.size w w') : IRow w' v zs := by
  obtain ⟨p, cap, hv, hl, hc⟩ := h
  refine ⟨p, cap, hv, hl, fun k z hk => ?_⟩
  obtain ⟨g, o, hp, hg, c⟩ := hc k z hk
  exact ⟨g, o, hp, Nat.lt_of_lt_of_le hg hb.size, (hb.cell (p := ⟨g, _, none⟩) hg).trans c⟩

set_option maxRecDepth 100000 in
theorem open_irow {H : Type} {enc : TypeId × Value → H} {W : World} {base : Nat} {t : TypeId} {v : Value} {d : DataW H} {p : List MemPlace} (ht : Try.prog.underlying t = some (.slice 3))
    (hv : Value.okWide Try.prog W .any base t v) (h : DataW.Trod enc Try.prog W 0 (fun _ => true) true t v d p) :
    ∃ zs : List Int, IRow W v zs ∧ (∀ z ∈ zs, (Lit.int .i64 z).wf = true) ∧ (d = .nil ∧ zs = [] ∨ ∃ ys : List Int, d = .slice (lits .i64 zs) (lits .i64 ys)) := by
  obtain ⟨a, len, cap, rfl⟩ := okWide_slice ht hv
  obtain ⟨fuel, hf⟩ := h
  rcases open_ints ht Try.underlying3 Try.cellsInt hf with ⟨hcs, hx⟩ | ⟨a', len', cap', ys, hcs, _, hl, hm, hz, hx, hcell, hws⟩
  · simp [Value.cells] at hcs
    obtain ⟨rfl, rfl, rfl⟩ := hcs
    simp only [Prod.mk.injEq] at hx
    exact ⟨[], ⟨none, 0, rfl, Nat.le_refl _, fun k z hk => by simp at hk⟩, fun z hz => by simp at hz, Or.inl ⟨hx.1, rfl⟩⟩
  · simp [Value.cells] at hcs
    obtain ⟨rfl, rfl, rfl⟩ := hcs
    simp only [Prod.mk.injEq] at hx
    simp only [if_true] at hz
    have hlen : (ys.take len).length = len := by rw [List.length_take]; omega
    refine ⟨ys.take len, ⟨some a', cap, by rw [hlen], by omega, fun k z hk => ?_⟩, fun z hz => hws z (List.mem_of_mem_take hz), Or.inr ⟨ys.drop len, hx.1⟩⟩
    have hkl : k < len := by have := (List.getElem?_eq_some_iff.1 hk).1; omega
    have hc := hcell k (by omega)
    have e : ys.getD k 0 = z := by
      rw [List.getElem?_take_of_lt hkl] at hk
      rw [List.getD, hk]; rfl
    rw [e] at hc
    obtain ⟨g, o, spot⟩ := a'
    have hspot : spot = none := by simpa [Addr.add] using World.cell?_spot (hcell 0 (by omega))
    subst hspot
    have hc' : W.cell? ⟨g, o + k, none⟩ = some (.int .i64 z) := by rw [← add_plain]; exact hc
    exact ⟨g, o, rfl, cell_in hc', hc'⟩
theorem irow_reach {H : Type} {ts : List TypeId} {ds : List (DataW H)} {t : TypeId} {j : Nat} {zs : List Int} {d : DataW H} (h : (DataW.weightsEach Try.prog ts ds).all (· ≤ reachBytes) = true) (ht : ts[j]? = some t) (hd : ds[j]? = some d)
    (hu : Try.prog.underlying t = some (.slice 3)) (hz : d = .nil ∧ zs = [] ∨ ∃ ys : List Int, d = .slice (lits .i64 zs) (lits .i64 ys)) : zs.length * 8 ≤ 140737488351232 := by
  rcases hz with ⟨_, rfl⟩ | ⟨ys, rfl⟩
  · simp
  · have := sized_slice h ht hd hu
    rw [Try.bytesInt] at this
    simp only [lits, List.length_map, reachBytes] at this
    omega
theorem str_reach {H : Type} {ts : List TypeId} {ds : List (DataW H)} {t : TypeId} {j : Nat} {s : ByteArray} (h : (DataW.weightsEach Try.prog ts ds).all (· ≤ reachBytes) = true) (ht : ts[j]? = some t) (hd : ds[j]? = some (.lit (.string s.data.toList))) : s.size ≤ 140737488351232 := by
  have := sized_string h ht hd
  rw [Array.length_toList] at this
  simp only [reachBytes] at this
  exact this
end Go.Proofs.Ytgeajdfajfdjcaa
/- The head of the program's text: it is of the kind that a claim may enter. The words of the head are read one by one, the rest unread: read whole they take the kernel more memory than it has, in a program of many rows. -/
namespace Go.Proofs.Ytgeajdfajfdjcaa
set_option linter.unusedVariables false

theorem words_step : ∀ (w r : List Char), (w.all (· != Char.ofNat 32)) = true → wordsSigns (w ++ Char.ofNat 32 :: r) = w :: wordsSigns r
  | [], r, _ => rfl
  | c :: w, r, h => by
    rw [List.all_cons, Bool.and_eq_true] at h
    have hc : c ≠ Char.ofNat 32 := by intro e; subst e; exact absurd h.1 (by decide)
    have ih := words_step w r h.2
    show wordsSigns (c :: (w ++ Char.ofNat 32 :: r)) = _
    rw [wordsSigns.eq_3 _ _ (by intro e; exact hc e), ih]
def headMain : List Char := List.map Char.ofNat [104, 97, 114, 110, 101, 115, 115]
def headSum : List Char := List.map Char.ofNat [101, 51, 50, 48, 51, 52, 57, 53, 98, 102, 54, 99, 57, 100, 57, 48, 99, 98, 51, 100, 55, 54, 102, 54, 52, 100, 50, 54, 101, 51, 54, 49, 97, 54, 55, 97, 52, 49, 100, 48, 55, 49, 102, 99, 100, 55, 55, 52, 101, 48, 102, 102, 53, 49, 52, 98, 49, 99, 102, 97, 55, 99, 53, 56]
def headMake : List Char := List.map Char.ofNat [99, 117, 116]
set_option maxRecDepth 100000 in
def headRest : List Char := List.map Char.ofNat [97, 116, 32, 116, 101, 109, 112, 108, 101, 47, 116, 101, 109, 112, 108, 101, 108, 97, 119, 49, 56, 46, 80, 97, 99, 107, 115, 32, 116, 101, 109, 112, 108, 101, 47, 116, 101, 109, 112, 108, 101, 108, 97, 119, 49, 56, 46, 80, 97, 99, 107, 66, 97, 99, 107, 32, 116, 101, 109, 112, 108, 101, 47, 116, 101, 109, 112, 108, 101, 108, 97, 119, 49, 56, 46, 80, 97, 99, 107, 70, 111, 114, 109, 115, 32, 116, 101, 109, 112, 108, 101, 47, 116, 101, 109, 112, 108, 101, 108, 97, 119, 49, 56, 46, 80, 97, 99, 107, 83, 105, 122, 101, 115, 32, 116, 101, 109, 112, 108, 101, 47, 116, 101, 109, 112, 108, 101, 108, 97, 119, 49, 56, 46, 80, 97, 99, 107, 67, 111, 117, 110, 116, 115, 32, 116, 101, 109, 112, 108, 101, 47, 116, 101, 109, 112, 108, 101, 108, 97, 119, 49, 56, 46, 80, 97, 99, 107, 84, 117, 114, 110, 101, 100]
theorem head_is : Try.checked.prog.initOrder = String.ofList (headMain ++ Char.ofNat 32 :: (headSum ++ Char.ofNat 32 :: (headMake ++ Char.ofNat 32 :: headRest))) := by kernel_rfl
theorem behind_main (h s : List Char) (r : List (List Char)) (e : ((h == "harness".toList || h == "ownmain".toList) && isSumSigns s) = true) : behindMainWord (h :: s :: r) = r := by
  show (if _ then r else _) = r
  rw [if_pos e]
theorem head_cut : ∃ tl, behindMainWord (wordsSigns Try.checked.prog.initOrder.toList) = [Char.ofNat 99, Char.ofNat 117, Char.ofNat 116] :: tl := by
  rw [head_is, String.toList_ofList, words_step _ _ (by kernel_rfl), words_step _ _ (by kernel_rfl), words_step _ _ (by kernel_rfl)]
  exact ⟨wordsSigns headRest, behind_main _ _ _ (by kernel_rfl)⟩
theorem strip_cut (tl : List (List Char)) : stripLifts liftWords ([Char.ofNat 99, Char.ofNat 117, Char.ofNat 116] :: tl) = ([], [Char.ofNat 99, Char.ofNat 117, Char.ofNat 116] :: tl) := by kernel_rfl
theorem lays_no : Try.checked.prog.laysLater = false := by kernel_rfl
theorem bears_no : Try.checked.prog.bearsReflect = false := by kernel_rfl
theorem door_ok : Try.checked.prog.doorFits [] = true := by kernel_rfl
theorem enter_of {P : Program} {tl : List (List Char)} (h : behindMainWord (wordsSigns P.initOrder.toList) = [Char.ofNat 99, Char.ofNat 117, Char.ofNat 116] :: tl) (h1 : P.laysLater = false) (h2 : P.bearsReflect = false) (h3 : P.doorFits [] = true) : P.mayEnter = true := by
  unfold Program.mayEnter
  rw [h]
  dsimp only
  rw [strip_cut, h1, h2, h3]
  have e : (([Char.ofNat 99, Char.ofNat 117, Char.ofNat 116] :: tl).head? == some "cut".toList) = true := by kernel_rfl
  dsimp only
  rw [e]
  simp
theorem lifts_of {P : Program} {tl : List (List Char)} (h : behindMainWord (wordsSigns P.initOrder.toList) = [Char.ofNat 99, Char.ofNat 117, Char.ofNat 116] :: tl) : P.liftsFinal = false := by
  have h0 : P.headLifts = [] := by
    unfold Program.headLifts
    rw [h, strip_cut]
    dsimp only
    split <;> rfl
  unfold Program.liftsFinal
  rw [h, h0]
  have e : (([Char.ofNat 99, Char.ofNat 117, Char.ofNat 116] :: tl).head? == some "carried".toList) = false := by kernel_rfl
  dsimp only
  rw [e]; rfl
theorem make_of {P : Program} {tl : List (List Char)} (h : behindMainWord (wordsSigns P.initOrder.toList) = [Char.ofNat 99, Char.ofNat 117, Char.ofNat 116] :: tl) : P.make = some .cut := by
  unfold Program.make
  rw [h]
  dsimp only
  rw [if_neg (by rw [show (([Char.ofNat 99, Char.ofNat 117, Char.ofNat 116] : List Char) == "gc".toList || ([Char.ofNat 99, Char.ofNat 117, Char.ofNat 116] : List Char) == "spec".toList) = false by kernel_rfl]; simp), if_pos (by rw [show (([Char.ofNat 99, Char.ofNat 117, Char.ofNat 116] : List Char) == "cut".toList) = true by kernel_rfl]; rfl)]
theorem enter_ok : Try.checked.prog.mayEnter = true := head_cut.elim fun _ h => enter_of h lays_no bears_no door_ok
theorem lifts_no : Try.checked.prog.liftsFinal = false := head_cut.elim fun _ h => lifts_of h
theorem make_cut : Try.checked.prog.make = some .cut := head_cut.elim fun _ h => make_of h
theorem and_ok {a b : Bool} (h : a = true) (k : b = true) : (a && b) = true := by subst h; subst k; rfl
end Go.Proofs.Ytgeajdfajfdjcaa
