/- How a byte is shown. No program in sight. -/
import Derived.Test.YteanhhehjlhhbaaShowAwake
namespace Go.Proofs.Yteanhhehjlhhbaa
set_option linter.unusedVariables false
open Go.ChangeShapes Go.WideShapes Go.ChangeAt Go.RowKit

def gB (lo hi : Int) : Gr := ⟨0, [⟨#[113]⟩], [⟨0, [⟨false, [⟨-1, lo, hi⟩]⟩]⟩]⟩
theorem qN : mayNames [⟨#[113]⟩] = true := by kernel_rfl
theorem mayB {lo hi : Int} (h0 : 0 ≤ lo) (h1 : lo ≤ hi) (h2 : hi ≤ 255) : mayG (gB lo hi) = true := by
  simp [mayG, gB, qN, isNum, mayHeads, mayRules, mayRs, mayCs, mayRow, maySym, h0, h1, h2]
theorem showB1 (k : Int) : showL (gB k k) = [115, 116, 97, 114, 116, 32, 113, 59, 10, 113, 32, 61, 32] ++ quoT 34 [byteOf k] ++ [59, 10] := by
  simp [showL, gB, defsT, defT, altsT, rulesOfT, joinN, ruleAt, conjsT, conjAt, conjT, partsT, symP, addT, partAt, partT]
theorem showB2 {k : Int} (h : k ≠ 255) : showL (gB k 255) = [115, 116, 97, 114, 116, 32, 113, 59, 10, 113, 32, 61, 32] ++ (quoT 39 [byteOf k] ++ [46, 46] ++ quoT 39 [255]) ++ [59, 10] := by
  have h' : byteOf 255 = 255 := rfl
  simp [showL, gB, defsT, defT, altsT, rulesOfT, joinN, ruleAt, conjsT, conjAt, conjT, partsT, symP, partAt, partT, h, h']
def ALLB : ByteArray := ⟨#[48, 49, 50, 51, 52, 53, 54, 55, 56, 57, 97, 98, 99, 100, 101, 102]⟩
theorem allB (p : Nat) (h : p < 16) : UInt8.ofNat (PlainAid.bt ALLB p).toNat = hexT p := by
  have : ∀ p : Fin 16, UInt8.ofNat (PlainAid.bt ALLB p.val).toNat = hexT p.val := by decide
  exact this ⟨p, h⟩
/-- How a byte is shown in quotes. -/
def escB (q : UInt8) (k : Nat) : ByteArray := if k < 32 ∨ 126 < k then (⟨#[92, 120]⟩ : ByteArray) ++ strOf [PlainAid.bt ALLB (k / 16), PlainAid.bt ALLB (k % 16)] else if k = q.toNat ∨ k = 92 then ⟨#[92, UInt8.ofNat k]⟩ else strOf [(k : Int)]
theorem escB_eq (q : UInt8) {k : Nat} (hk : k ≤ 255) : (escB q k).data.toList = escT q (byteOf (k : Int)) := by
  have hb : (byteOf (k : Int)).toNat = k := by have := byteOf_nat (n := (k : Int)) (by omega) (by omega); omega
  unfold escB escT
  rw [hb]
  by_cases h1 : k < 32 ∨ 126 < k
  · rw [if_pos h1, if_pos h1, data_app]
    simp only [strOf, List.map_cons, List.map_nil]
    rw [allB _ (by omega), allB _ (by omega)]
    rfl
  · rw [if_neg h1, if_neg h1]
    have e : (byteOf (k : Int) = q ∨ byteOf (k : Int) = 92) ↔ (k = q.toNat ∨ k = 92) := by
      constructor
      · rintro (e | e)
        · left; rw [← e, hb]
        · right; rw [← hb, e]; rfl
      · rintro (e | e)
        · left; exact UInt8.toNat_inj.1 (by rw [hb, e])
        · right; exact UInt8.toNat_inj.1 (by rw [hb, e]; rfl)
    by_cases h2 : k = q.toNat ∨ k = 92
    · rw [if_pos h2, if_pos (e.2 h2)]; rfl
    · rw [if_neg h2, if_neg (fun h => h2 (e.1 h))]; rfl
theorem ba_ext {s t : ByteArray} (h : s.data.toList = t.data.toList) : s = t := by
  apply ByteArray.ext
  exact Array.toList_inj.1 h
theorem showT1 {k : Nat} (hk : k ≤ 255) : showT (gB k k) = ((⟨#[115, 116, 97, 114, 116, 32, 113, 59, 10, 113, 32, 61, 32, 34]⟩ : ByteArray) ++ escB 34 k) ++ ⟨#[34, 59, 10]⟩ := by
  apply ba_ext
  rw [data_app, data_app, escB_eq 34 hk]
  show showL (gB k k) = _
  rw [showB1]
  simp [quoT]
theorem showT2 {k : Nat} (hk : k < 255) : showT (gB k 255) = ((⟨#[115, 116, 97, 114, 116, 32, 113, 59, 10, 113, 32, 61, 32, 39]⟩ : ByteArray) ++ escB 39 k) ++ ⟨#[39, 46, 46, 39, 92, 120, 102, 102, 39, 59, 10]⟩ := by
  apply ba_ext
  rw [data_app, data_app, escB_eq 39 (by omega)]
  show showL (gB k 255) = _
  rw [showB2 (by omega)]
  have h : quoT 39 [255] = [39, 92, 120, 102, 102, 39] := by decide
  rw [h]
  simp [quoT]
theorem escB_size (q : UInt8) (k : Nat) : (escB q k).size ≤ 4 := by
  unfold escB
  split
  · rw [ByteArray.size_append]; exact (by decide : 2 + 2 ≤ 4)
  · split
    · exact (by decide : 2 ≤ 4)
    · exact (by decide : 1 ≤ 4)
end Go.Proofs.Yteanhhehjlhhbaa
