/- Reading off a text: what a slice of it is, what a conversion lays. -/
import Derived.Test.YtgeajdfajfdjcaaPkN
import Derived.Lib.ConvBytes
namespace Go.Proofs.Ytgeajdfajfdjcaa
set_option linter.unusedVariables false
set_option linter.unusedSimpArgs false
open Go.ChangeShapes Go.WideShapes Go.ChangeAt Go.RowKit

theorem ext_front (r : List UInt8) (k : Nat) : (⟨r.toArray⟩ : ByteArray).extract 0 k = ⟨(r.take k).toArray⟩ := by
  apply ByteArray.ext
  rw [ByteArray.data_extract]
  simp
theorem ext_back (r : List UInt8) (k : Nat) : (⟨r.toArray⟩ : ByteArray).extract k r.length = ⟨(r.drop k).toArray⟩ := by
  apply ByteArray.ext
  rw [ByteArray.data_extract]
  simp
  exact List.take_of_length_le (by simp)
theorem take_conv {V : World} {s : ByteArray} {r : List UInt8} {k : Nat} (hs : s = ⟨r.toArray⟩) (hk : k ≤ r.length) : ∃ (V2 : World) (cp : Nat), (convert 9 56 (.string (s.extract 0 k))).run Try.prog V = .ok (.slice (some ⟨V.heap.size, 0, none⟩) k cp) V2 ∧ Hid (Below V.heap.size V V2) ∧ Hid (∀ j, j < k → ∃ b : UInt8, r[j]? = some b ∧ V2.cell? ⟨V.heap.size, j, none⟩ = some (.int .u8 (b.toNat : Int))) := by
  subst hs
  rw [ext_front]
  have hsz : (⟨(r.take k).toArray⟩ : ByteArray).size = k := by
    show ((r.take k).toArray).size = k
    simp; omega
  have h := Lib.run_convert_string_bytes (P := Try.prog) V 9 56 5 ⟨(r.take k).toArray⟩ Try.underlying9 Try.underlying56 Try.underlying5
  rw [hsz] at h
  refine ⟨_, _, h, ⟨rfl, rfl, rfl, by rw [Lib.bytesWorld_size]; exact Nat.le_succ _, fun i hi => Lib.bytesWorld_at_old V _ _ i hi⟩, fun j hj => ?_⟩
  have hj2 : j < r.length := by omega
  refine ⟨r[j], List.getElem?_eq_getElem hj2, ?_⟩
  have := Lib.bytesWorld_cell V 5 ⟨(r.take k).toArray⟩ j (by omega)
  rw [this]
  have e : ((r.take k).toArray).toList.getD j 0 = r[j] := by
    rw [List.getD_eq_getElem?_getD]
    simp [List.getElem?_take, hj, hj2]
  show some (Value.int .u8 ((((r.take k).toArray).toList.getD j 0).toNat : Int)) = _
  rw [e]
theorem or_shift (v : Nat) (c : UInt8) (h : v < 16777216) : bits .or .i64 ((v : Int) * 256) (c.toNat : Int) = (v : Int) * 256 + (c.toNat : Int) := by
  have hc : c.toNat < 256 := c.toNat_lt
  have h1 : ((v : Int) * 256) = ((v * 256 : Nat) : Int) := by omega
  rw [h1]
  show IntKind.i64.wrap ((BitVec.ofInt 64 ((v * 256 : Nat) : Int) ||| BitVec.ofInt 64 ((c.toNat : Nat) : Int)).toNat : Int) = _
  rw [BitVec.toNat_or, BitVec.ofInt_natCast, BitVec.ofInt_natCast, BitVec.toNat_ofNat, BitVec.toNat_ofNat, Nat.mod_eq_of_lt (by omega), Nat.mod_eq_of_lt (by omega)]
  have e : v * 256 ||| c.toNat = v * 256 + c.toNat := by
    rw [show v * 256 = 2 ^ 8 * v by omega, ← Nat.two_pow_add_eq_or_of_lt (by omega)]
  rw [e, IntKind.wrap_i64]
  omega
end Go.Proofs.Ytgeajdfajfdjcaa
