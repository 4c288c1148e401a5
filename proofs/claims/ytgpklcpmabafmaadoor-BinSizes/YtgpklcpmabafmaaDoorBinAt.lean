/- Bin of a grammar whose new names are known; awake of layer 14. -/
import Derived.Test.YtgpklcpmabafmaaDoorBinAw
import Derived.Test.YtgpklcpmabafmaaDoorBinO
import Derived.Test.YtgpklcpmabafmaaDoorBinI
import Derived.Test.YtgpklcpmabafmaaDoorBinY
namespace Go.Proofs.YtgpklcpmabafmaaDoor
set_option linter.unusedVariables false
set_option linter.unusedSimpArgs false
open Go.ChangeShapes Go.WideShapes Go.ChangeAt Go.RowKit

/-- The names alone that Bin adds to some that hold no number. -/
theorem fresh_allY {ns : List ByteArray} (h : ∀ k, k < 100 → nmS k ∉ ns) : ∀ m, m ≤ 100 → freshS ns m = (List.range m).map nmS
  | 0, _ => rfl
  | m + 1, hm => by
    show freshS ns m ++ (if inB ns (nmS m) = true then [] else [nmS m]) = _
    rw [fresh_allY h m (by omega), if_neg (fun e => h m (by omega) (inB_iff.1 e)), List.range_succ, List.map_append]
    rfl
theorem nmS_ne {k : Nat} {a : UInt8} (ha : a ≠ 95) {l : List UInt8} : nmS k ≠ ⟨(a :: l).toArray⟩ := fun e => by
  have h : (nmS k).data.toList = (⟨(a :: l).toArray⟩ : ByteArray).data.toList := by rw [e]
  have h2 : 95 :: dS k = a :: l := h
  injection h2 with h2 _
  exact ha h2.symm
def biG (g : Gr) (l : List ByteArray) : Gr := ⟨g.start, g.names ++ l, cutR g.names.length 0 g.rules ++ restR g.names.length 0 (rowsR g.rules)⟩
theorem bin_at (g : Gr) (l : List ByteArray) {r : Nat} (hr : (rowsR g.rules).length = r) (hM : mayG g = true) (h99 : g.names.length + r ≤ 99) (hl : l.length = r) (hf : ∀ m, m < 100 → (freshS g.names m).length = r → freshS g.names m = l)
    (v1 v2 : Value) (w : World) {F0 : Nat → Prop} (hg : GrIs w F0 v1 v2 g) (hn : ∀ s, s ∈ g.names → s.size ≤ maxLen) :
    Calls Tryd.prog 7 #[.agg #[.int .i64 g.start, v1, v2]] w fun e w' => ∃ z st p1 n1 c1 p2 n2 c2, e = .returned (.tuple #[.agg #[.int .i64 st, .slice p1 n1 c1, .slice p2 n2 c2], .int .i64 z]) ∧ Hid ((z = 0 ∧ st = g.start ∧ mayG (biG g l) = true ∧ n1 = g.names.length + r ∧ n2 = g.rules.length + r ∧ GrIs w' Any (.slice p1 n1 c1) (.slice p2 n2 c2) (biG g l)) ∨ (z = 1401 ∧ mayG (biG g l) = false ∧ st = 0 ∧ p1 = none ∧ n1 = 0 ∧ c1 = 0 ∧ p2 = none ∧ n2 = 0 ∧ c2 = 0)) ∧ Hid (Below w.heap.size w w') := by
  refine (bin_ok dD dD_size dD_inj itoa_small g v1 v2 w hg hn hM (by rw [hr]; exact h99)).mono ?_
  rintro e w' ⟨m, z, st, u1, u2, rfl, hm, hc, hb⟩
  have e1 : freshT dD g.names m = l := by
    have h1 : m < 100 := fresh_lowY (ns := g.names) dD_inj (by rw [hm.out, hr]; omega)
    have h2 := hm.out
    rw [fresh_eqY m (by omega), hr] at h2
    rw [fresh_eqY m (by omega)]
    exact hf m h1 h2
  have e2 : binG dD g m = biG g l := by unfold binG biG; rw [e1]
  rcases hc.out with ⟨rfl, rfl, h3, h4⟩ | ⟨rfl, h3, rfl, rfl, rfl⟩
  · rw [e2] at h3 h4
    obtain ⟨p1, c1, s1, -⟩ := h4.1
    obtain ⟨p2, c2, s2⟩ := lngRB h4.2
    have l1 : (biG g l).names.length = g.names.length + r := by show (g.names ++ l).length = _; rw [List.length_append, hl]
    have l2 : (biG g l).rules.length = g.rules.length + r := by show (cutR _ _ _ ++ restR _ _ _).length = _; rw [List.length_append, cutR_len, restR_len, hr]
    refine ⟨0, g.start, p1, _, c1, p2, _, c2, by rw [s1, s2], Or.inl ⟨rfl, rfl, h3, l1, l2, ?_⟩, hb⟩
    rw [← s1, ← s2]; exact h4
  · rw [e2] at h3
    exact ⟨1401, 0, none, 0, 0, none, 0, 0, rfl, Or.inr ⟨rfl, h3, rfl, rfl, rfl, rfl, rfl, rfl, rfl⟩, hb⟩
def a14N : List ByteArray := [⟨#[95, 49]⟩, ⟨#[95, 50]⟩]
theorem a14_fresh : ∀ m, m < 100 → (freshS a14G.names m).length = 2 → freshS a14G.names m = a14N := by decide +kernel
theorem a14_may : mayG a14G = true ∧ mayG a14W = true := ⟨by kernel_rfl, by kernel_rfl⟩
theorem small_names {l : List ByteArray} (h : l.all (fun s => decide (s.size ≤ 1000)) = true) : ∀ s, s ∈ l → s.size ≤ maxLen := fun s hs => by
  have := of_decide_eq_true (List.all_eq_true.1 h s hs)
  unfold maxLen; omega
theorem awake14_any (w : World) : Calls Tryd.prog 6 #[] w fun e w' => e = .returned (.bool true) ∧ Hid (Below w.heap.size w w') := by
  refine awake14_core w (fun v1 v2 w hg => ?_) (fun w => ?_)
  · refine (bin_at a14G a14N (r := 2) rfl a14_may.1 (by decide) rfl a14_fresh v1 v2 w hg (small_names (by decide))).mono ?_
    rintro e w' ⟨z, st, p1, n1, c1, p2, n2, c2, rfl, hc, hb⟩
    rcases hc.out with ⟨rfl, rfl, -, rfl, rfl, h4⟩ | ⟨-, h3, -⟩
    · exact ⟨p1, c1, p2, c2, rfl, h4, hb⟩
    · have : mayG (biG a14G a14N) = mayG a14W := rfl
      rw [this, a14_may.2] at h3
      cases h3
  · exact bin_no ⟨0, [], []⟩ (.slice none 0 0) (.slice none 0 0) w (F0 := Any) ⟨⟨none, 0, rfl, ⟨Nat.zero_le _, Nat.zero_le _⟩, fun h => absurd h (Nat.lt_irrefl _)⟩, [], ⟨none, 0, rfl, ⟨Nat.zero_le _, Nat.zero_le _⟩, fun h => absurd h (Nat.lt_irrefl _)⟩, RusIn.nil w Any⟩ (fun s hs => by cases hs) (fun r hr => by cases hr) (by kernel_rfl)
end Go.Proofs.YtgpklcpmabafmaaDoor
