import Derived.Test.YtgeajdfajfdjcaaLexRow
import Derived.Laws.BytesString
/- One byte of a text as it is written; a row of bytes as a string. -/
namespace Go.Proofs.Ytgeajdfajfdjcaa
set_option linter.unusedVariables false
open Go.ChangeShapes Go.WideShapes Go.ChangeAt Go.RowKit

theorem bt_extract (s : ByteArray) (k j : Nat) : PlainAid.bt (s.extract k s.size) j = PlainAid.bt s (k + j) := by
  unfold PlainAid.bt
  by_cases h : k + j < s.size
  · rw [dif_pos h, dif_pos (by simp; omega)]
    simp [ByteArray.getElem_extract]
  · rw [dif_neg h, dif_neg (by simp; omega)]
theorem size_extract (s : ByteArray) (k : Nat) : (s.extract k s.size).size = s.size - k := by simp

def shiftO (d : Nat) : Option (Int × Nat) → Option (Int × Nat)
  | none => none
  | some (c, t) => some (c, t + d)
theorem signF_shift (b b' : Nat → Int) (n n' d k : Nat) (q : Int) (hb : ∀ j, b' j = b (j + d)) (hn : n = n' + d) : signF b n (k + d) q = shiftO d (signF b' n' k q) := by
  have e0 := hb k
  have e1 : b' (k + 1) = b (k + d + 1) := by rw [hb, show k + 1 + d = k + d + 1 by omega]
  have e2 : b' (k + 2) = b (k + d + 2) := by rw [hb, show k + 2 + d = k + d + 2 by omega]
  have e3 : b' (k + 3) = b (k + d + 3) := by rw [hb, show k + 3 + d = k + d + 3 by omega]
  subst hn
  unfold signF
  rw [e0, e1, e2, e3]
  simp only [show (n' + d ≤ k + d) ↔ (n' ≤ k) by omega, show (n' + d ≤ k + d + 1) ↔ (n' ≤ k + 1) by omega, show (n' + d ≤ k + d + 3) ↔ (n' ≤ k + 3) by omega]
  by_cases h1 : n' ≤ k ∨ b (k + d) < 32 ∨ 126 < b (k + d) ∨ b (k + d) = q
  · rw [if_pos h1, if_pos h1]; rfl
  · rw [if_neg h1, if_neg h1]
    by_cases h2 : b (k + d) ≠ 92
    · rw [if_pos h2, if_pos h2]; show _ = some _; rw [show k + 1 + d = k + d + 1 by omega]
    · rw [if_neg h2, if_neg h2]
      by_cases h3 : n' ≤ k + 1
      · rw [if_pos h3, if_pos h3]; rfl
      · rw [if_neg h3, if_neg h3]
        by_cases h4 : b (k + d + 1) = 92 ∨ b (k + d + 1) = 34 ∨ b (k + d + 1) = 39
        · rw [if_pos h4, if_pos h4]; show _ = some _; rw [show k + 2 + d = k + d + 2 by omega]
        · rw [if_neg h4, if_neg h4]
          by_cases h5 : b (k + d + 1) ≠ 120 ∨ n' ≤ k + 3 ∨ hexF (b (k + d + 2)) < 0 ∨ hexF (b (k + d + 3)) < 0
          · rw [if_pos h5, if_pos h5]; rfl
          · rw [if_neg h5, if_neg h5]; show _ = some _; rw [show k + 4 + d = k + d + 4 by omega]
theorem signF_rest (s : ByteArray) (k : Nat) (q : Int) (hk : k ≤ s.size) : signF (PlainAid.bt s) s.size k q = shiftO k (signF (PlainAid.bt (s.extract k s.size)) (s.extract k s.size).size 0 q) := by
  have := signF_shift (PlainAid.bt s) (PlainAid.bt (s.extract k s.size)) s.size (s.size - k) k 0 q (fun j => by rw [bt_extract, Nat.add_comm]) (by omega)
  rw [Nat.zero_add] at this
  rw [size_extract]
  exact this

def writV : Option (Int × Nat) → Int × Int
  | none => (0, 0)
  | some (c, k) => (c, (k : Int))

theorem shape_of_sign (b : Nat → Int) (n : Nat) (q : Int) (hb : ∀ j, 0 ≤ b j ∧ b j ≤ 255) :
    (n = 0 ∧ signF b n 0 q = none) ∨
    (0 < n ∧ b 0 < 32 ∧ signF b n 0 q = none) ∨
    (0 < n ∧ 32 ≤ b 0 ∧ 126 < b 0 ∧ signF b n 0 q = none) ∨
    (0 < n ∧ 32 ≤ b 0 ∧ b 0 ≤ 126 ∧ (b 0 == q) = true ∧ signF b n 0 q = none) ∨
    (0 < n ∧ 32 ≤ b 0 ∧ b 0 ≤ 126 ∧ (b 0 == q) = false ∧ (b 0 != 92) = true ∧ signF b n 0 q = some (b 0, 1)) ∨
    (0 < n ∧ 32 ≤ b 0 ∧ b 0 ≤ 126 ∧ (b 0 == q) = false ∧ (b 0 != 92) = false ∧ 1 < n ∧ (b 1 = 92 ∨ b 1 = 34 ∨ b 1 = 39) ∧ signF b n 0 q = some (b 1, 2)) ∨
    (0 < n ∧ 32 ≤ b 0 ∧ b 0 ≤ 126 ∧ (b 0 == q) = false ∧ (b 0 != 92) = false ∧ ¬ 1 < n ∧ signF b n 0 q = none) ∨
    (0 < n ∧ 32 ≤ b 0 ∧ b 0 ≤ 126 ∧ (b 0 == q) = false ∧ (b 0 != 92) = false ∧ 1 < n ∧ ¬ (b 1 = 92 ∨ b 1 = 34 ∨ b 1 = 39) ∧ ¬ 3 < n ∧ signF b n 0 q = none) ∨
    (0 < n ∧ 32 ≤ b 0 ∧ b 0 ≤ 126 ∧ (b 0 == q) = false ∧ (b 0 != 92) = false ∧ 1 < n ∧ ¬ (b 1 = 92 ∨ b 1 = 34 ∨ b 1 = 39) ∧ 3 < n ∧ (b 1 == 120) = false ∧ signF b n 0 q = none) ∨
    (0 < n ∧ 32 ≤ b 0 ∧ b 0 ≤ 126 ∧ (b 0 == q) = false ∧ (b 0 != 92) = false ∧ 1 < n ∧ ¬ (b 1 = 92 ∨ b 1 = 34 ∨ b 1 = 39) ∧ 3 < n ∧ (b 1 == 120) = true ∧ hxB (b 2) = false ∧ signF b n 0 q = none) ∨
    (0 < n ∧ 32 ≤ b 0 ∧ b 0 ≤ 126 ∧ (b 0 == q) = false ∧ (b 0 != 92) = false ∧ 1 < n ∧ ¬ (b 1 = 92 ∨ b 1 = 34 ∨ b 1 = 39) ∧ 3 < n ∧ (b 1 == 120) = true ∧ hxB (b 2) = true ∧ hxB (b 3) = false ∧ signF b n 0 q = none) ∨
    (0 < n ∧ 32 ≤ b 0 ∧ b 0 ≤ 126 ∧ (b 0 == q) = false ∧ (b 0 != 92) = false ∧ 1 < n ∧ ¬ (b 1 = 92 ∨ b 1 = 34 ∨ b 1 = 39) ∧ 3 < n ∧ (b 1 == 120) = true ∧ hxB (b 2) = true ∧ hxB (b 3) = true ∧ signF b n 0 q = some (16 * hexF (b 2) + hexF (b 3), 4)) := by
  have hx : ∀ c, hxB c = true ↔ 0 ≤ hexF c := fun c => by simp [hxB]
  have hx' : ∀ c, hxB c = false ↔ hexF c < 0 := fun c => by simp [hxB]
  unfold signF
  simp only [Nat.zero_add, hx, hx', beq_iff_eq, beq_eq_false_iff_ne, bne_iff_ne, bne_eq_false_iff_eq]
  by_cases h0 : n = 0
  · exact Or.inl ⟨h0, if_pos (by omega)⟩
  refine Or.inr ?_
  by_cases h1 : b 0 < 32
  · exact Or.inl ⟨by omega, h1, if_pos (by omega)⟩
  refine Or.inr ?_
  by_cases h2 : 126 < b 0
  · exact Or.inl ⟨by omega, by omega, h2, if_pos (by omega)⟩
  refine Or.inr ?_
  by_cases h3 : b 0 = q
  · exact Or.inl ⟨by omega, by omega, by omega, h3, if_pos (by omega)⟩
  refine Or.inr ?_
  rw [if_neg (show ¬ (n ≤ 0 ∨ b 0 < 32 ∨ 126 < b 0 ∨ b 0 = q) by omega)]
  by_cases h4 : ¬ (b 0 = 92)
  · exact Or.inl ⟨by omega, by omega, by omega, h3, h4, if_pos h4⟩
  have h4 : b 0 = 92 := by omega
  refine Or.inr ?_
  rw [if_neg (by omega)]
  by_cases h5 : ¬ (1 < n)
  · exact Or.inr (Or.inl ⟨by omega, by omega, by omega, h3, h4, h5, if_pos (by omega)⟩)
  have h5 : 1 < n := by omega
  rw [if_neg (by omega)]
  by_cases h6 : b 1 = 92 ∨ b 1 = 34 ∨ b 1 = 39
  · exact Or.inl ⟨by omega, by omega, by omega, h3, h4, h5, h6, if_pos h6⟩
  refine Or.inr (Or.inr ?_)
  rw [if_neg h6]
  by_cases h7 : ¬ (3 < n)
  · exact Or.inl ⟨by omega, by omega, by omega, h3, h4, h5, h6, h7, if_pos (by omega)⟩
  have h7 : 3 < n := by omega
  refine Or.inr ?_
  by_cases h8 : ¬ (b 1 = 120)
  · exact Or.inl ⟨by omega, by omega, by omega, h3, h4, h5, h6, h7, h8, if_pos (by omega)⟩
  have h8 : b 1 = 120 := by omega
  refine Or.inr ?_
  by_cases h9 : hexF (b 2) < 0
  · exact Or.inl ⟨by omega, by omega, by omega, h3, h4, h5, h6, h7, h8, h9, if_pos (by omega)⟩
  refine Or.inr ?_
  by_cases h10 : hexF (b 3) < 0
  · exact Or.inl ⟨by omega, by omega, by omega, h3, h4, h5, h6, h7, h8, by omega, h10, if_pos (by omega)⟩
  exact Or.inr ⟨by omega, by omega, by omega, h3, h4, h5, h6, h7, h8, by omega, by omega, if_neg (by omega)⟩

theorem strOf_foldl : ∀ (ns : List Int) (r : ByteArray), ns.foldl (fun r n => r.push (UInt8.ofNat n.toNat)) r = ⟨r.data ++ (ns.map fun n => UInt8.ofNat n.toNat).toArray⟩
  | [], r => by simp
  | c :: l, r => by
    simp only [List.map_cons, List.foldl_cons]
    rw [strOf_foldl l]
    simp [ByteArray.push]
theorem conv_row {w : World} {base : Nat} {v : Value} {rd : List Int} {n : Nat} (h : w.ownsRow base 5 1 v n (bytesV rd)) : (convert 56 9 v).run Try.prog w = .ok (.string (strOf rd)) w := by
  have hn : n = rd.length := by have := h.1; simp [bytesV] at this; omega
  obtain ⟨h0, ⟨h1, h2⟩ | ⟨g, cap, cur, h1, h2, h3⟩⟩ := id h
  · subst h1
    have : rd = [] := List.eq_nil_of_length_eq_zero (by omega)
    subst this
    rw [run_convert_bytes_string w 56 9 5 none 0 0 Try.underlying56 Try.underlying5 Try.underlying9]
    rfl
  · subst h1 hn
    rw [run_convert_bytes_string w 56 9 5 _ _ _ Try.underlying56 Try.underlying5 Try.underlying9]
    have hl := run_loadCells_list (P := Try.prog) w ⟨g, 0, none⟩ (rd.map (Value.int .u8)) (fun j u hj => h.cells (g := g) rfl j u hj)
    simp only [List.length_map] at hl
    rw [run_bytesToString w _ rd.length cap rd hl, strOf_foldl]
    have he0 : ByteArray.empty.data = #[] := rfl
    rw [he0]
    simp [strOf]
end Go.Proofs.Ytgeajdfajfdjcaa
/- What the program's written does. -/
namespace Go.Proofs.Ytgeajdfajfdjcaa
set_option linter.unusedVariables false
open Go.ChangeShapes Go.WideShapes Go.ChangeAt Go.RowKit

theorem rwrit {a b c d : Int} (h : a = b) (h' : c = d) : Ending.returned (.tuple #[.int .u8 a, .int .i64 c]) = .returned (.tuple #[.int .u8 b, .int .i64 d]) := by rw [h, h']
theorem empty_beq (r : ByteArray) (h : 0 < r.size) : (r.toList == ([] : List UInt8)) = false := by
  rw [ByteArray.toList_eq]
  have : r.data.toList ≠ [] := fun e => by
    have h2 : r.data.toList.length = 0 := by rw [e]; rfl
    have h3 : r.size = r.data.toList.length := by rw [Array.length_toList]; rfl
    omega
  simpa using this
theorem empty_beq0 (r : ByteArray) (h : r.size = 0) : (r.toList == ([] : List UInt8)) = true := by
  rw [ByteArray.toList_eq]
  have h3 : r.size = r.data.toList.length := by rw [Array.length_toList]; rfl
  have : r.data.toList = [] := List.eq_nil_of_length_eq_zero (by omega)
  rw [this]; rfl

theorem or_hex_fin : ∀ x y : Fin 16, bits BinOp.or IntKind.u8 ((x.val : Int) * 16) (y.val : Int) = 16 * (x.val : Int) + (y.val : Int) := by decide +kernel
theorem or_hex (x y : Int) (h0 : 0 ≤ x) (h1 : x ≤ 15) (h2 : 0 ≤ y) (h3 : y ≤ 15) : bits BinOp.or IntKind.u8 (x * 16) y = 16 * x + y := by
  have := or_hex_fin ⟨x.toNat, by omega⟩ ⟨y.toNat, by omega⟩
  simpa [Int.toNat_of_nonneg h0, Int.toNat_of_nonneg h2] using this

end Go.Proofs.Ytgeajdfajfdjcaa
