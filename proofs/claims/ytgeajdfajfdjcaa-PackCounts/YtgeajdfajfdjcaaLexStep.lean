import Derived.Test.YtgeajdfajfdjcaaLexOpen
/- What the program's reader does in a name, in a text, in a range; a step of it. -/
namespace Go.Proofs.Ytgeajdfajfdjcaa
set_option linter.unusedVariables false
open Go.ChangeShapes Go.WideShapes Go.ChangeAt Go.RowKit

section
variable {W : World} {B : Nat} {s : ByteArray} {st nx bg : Nat} {rd : List Int} {ps : List Pc} {ft : Nat} {w : World}

theorem startB_list : startB.toList = [115, 116, 97, 114, 116] := ByteArray.toList_mk _

end
end Go.Proofs.Ytgeajdfajfdjcaa
/- What stands at a string's beginning, byte by byte. -/
namespace Go.Proofs.Ytgeajdfajfdjcaa
set_option linter.unusedVariables false
open Go.RowKit

theorem bt_list (xs : List UInt8) (k : Nat) : PlainAid.bt ⟨xs.toArray⟩ k = ((xs[k]?).map fun c => (c.toNat : Int)).getD 0 := by
  unfold PlainAid.bt
  by_cases h : k < xs.length
  · rw [dif_pos (show k < (⟨xs.toArray⟩ : ByteArray).size from h), List.getElem?_eq_getElem h]; rfl
  · rw [dif_neg (show ¬ k < (⟨xs.toArray⟩ : ByteArray).size from h), List.getElem?_eq_none (by omega)]; rfl
theorem pfx_list (xs l : List UInt8) : pfx ⟨xs.toArray⟩ ⟨l.toArray⟩ = (decide (l.length ≤ xs.length) && (xs.take l.length == l)) := by
  unfold pfx
  rw [ByteArray.toList_mk, show (⟨l.toArray⟩ : ByteArray).size = l.length from rfl, ByteArray.extract_mk, ByteArray.toList_mk]
  simp only [List.drop_zero, Nat.sub_zero]
  rfl
theorem u8_beq (a : UInt8) (n : Nat) (hn : n < 256) : (a == UInt8.ofNat n) = decide ((a.toNat : Int) = (n : Int)) := by
  rw [Bool.eq_iff_iff]
  simp only [beq_iff_eq, decide_eq_true_eq]
  constructor
  · intro h; subst h; simp; omega
  · intro h
    apply UInt8.toNat_inj.1
    rw [UInt8.toNat_ofNat']
    omega
theorem pfx1 (r : ByteArray) : pfx r ⟨#[39]⟩ = (decide (0 < r.size) && decide (PlainAid.bt r 0 = 39)) := by
  obtain ⟨⟨xs⟩⟩ := r
  rw [show (⟨#[39]⟩ : ByteArray) = ⟨([39] : List UInt8).toArray⟩ from rfl, pfx_list, bt_list]
  match xs with
  | [] => rfl
  | a :: t =>
    have := u8_beq a 39 (by decide)
    rw [Bool.eq_iff_iff]
    simp only [List.take, List.length_cons, List.length_nil, List.getElem?_cons_zero, Option.map_some, Option.getD_some]
    simp at this ⊢
    simp [ByteArray.size]
    rw [Bool.eq_iff_iff] at this
    simpa using this
theorem pfx2 (r : ByteArray) : pfx r ⟨#[46, 46]⟩ = (decide (1 < r.size) && (decide (PlainAid.bt r 0 = 46) && decide (PlainAid.bt r 1 = 46))) := by
  obtain ⟨⟨xs⟩⟩ := r
  rw [show (⟨#[46, 46]⟩ : ByteArray) = ⟨([46, 46] : List UInt8).toArray⟩ from rfl, pfx_list, bt_list, bt_list]
  match xs with
  | [] => rfl
  | [a] => rfl
  | a :: b :: t =>
    have ha := u8_beq a 46 (by decide)
    have hb := u8_beq b 46 (by decide)
    rw [Bool.eq_iff_iff] at ha hb ⊢
    simp [ByteArray.size] at ha hb ⊢
    rw [ha, hb]
theorem pfx3 (r : ByteArray) : pfx r ⟨#[46, 46, 39]⟩ = (decide (2 < r.size) && (decide (PlainAid.bt r 0 = 46) && (decide (PlainAid.bt r 1 = 46) && decide (PlainAid.bt r 2 = 39)))) := by
  obtain ⟨⟨xs⟩⟩ := r
  rw [show (⟨#[46, 46, 39]⟩ : ByteArray) = ⟨([46, 46, 39] : List UInt8).toArray⟩ from rfl, pfx_list, bt_list, bt_list, bt_list]
  match xs with
  | [] => rfl
  | [a] => rfl
  | [a, b] => simp [ByteArray.size]
  | a :: b :: c :: t =>
    have ha := u8_beq a 46 (by decide)
    have hb := u8_beq b 46 (by decide)
    have hc := u8_beq c 39 (by decide)
    rw [Bool.eq_iff_iff] at ha hb hc ⊢
    simp [ByteArray.size] at ha hb hc ⊢
    rw [ha, hb, hc]
/-- The same, of what is left of s from k on. -/
theorem rest1 (s : ByteArray) (k : Nat) (hk : k ≤ s.size) : pfx (s.extract k s.size) ⟨#[39]⟩ = (decide (k < s.size) && decide (PlainAid.bt s k = 39)) := by
  rw [pfx1, bt_extract, size_extract, Nat.add_zero]; congr 1; rw [decide_eq_decide]; omega
theorem rest2 (s : ByteArray) (k : Nat) (hk : k ≤ s.size) : pfx (s.extract k s.size) ⟨#[46, 46]⟩ = dotsB (PlainAid.bt s) s.size k := by
  rw [pfx2, bt_extract, bt_extract, size_extract, Nat.add_zero, Bool.eq_iff_iff]
  constructor
  · intro h
    simp only [Bool.and_eq_true, decide_eq_true_eq] at h
    exact dots_mk ⟨by omega, h.2.1, h.2.2⟩
  · intro h
    obtain ⟨a, b, c⟩ := dots_parts h
    simp only [Bool.and_eq_true, decide_eq_true_eq]
    exact ⟨by omega, b, c⟩
theorem rest3 (s : ByteArray) (k : Nat) (hk : k ≤ s.size) (hd : dots (PlainAid.bt s) s.size k) : pfx (s.extract k s.size) ⟨#[46, 46, 39]⟩ = !decide (s.size ≤ k + 2 ∨ PlainAid.bt s (k + 2) ≠ 39) := by
  obtain ⟨h1, h2, h3⟩ := dots_parts hd
  rw [pfx3, bt_extract, bt_extract, bt_extract, size_extract, Nat.add_zero, Bool.eq_iff_iff]
  simp [h2, h3]; omega
theorem extract_extract (s : ByteArray) (k j : Nat) (h : k + j ≤ s.size) : (s.extract k s.size).extract j (s.extract k s.size).size = s.extract (k + j) s.size := by
  rw [size_extract]
  apply ByteArray.ext
  simp only [ByteArray.data_extract, Array.extract_extract]
  congr 1
  have : s.data.size = s.size := rfl
  omega
end Go.Proofs.Ytgeajdfajfdjcaa
/- What the program's reader does in a text and in a range; a step of it. -/
namespace Go.Proofs.Ytgeajdfajfdjcaa
set_option linter.unusedVariables false
open Go.ChangeShapes Go.WideShapes Go.ChangeAt Go.RowKit

section
variable {W : World} {B : Nat} {s : ByteArray} {st nx bg : Nat} {rd : List Int} {ps : List Pc} {ft : Nat} {w : World}

end
end Go.Proofs.Ytgeajdfajfdjcaa
