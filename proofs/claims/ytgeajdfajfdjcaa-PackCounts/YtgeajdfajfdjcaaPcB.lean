/- templelaw18's be: a number as four bytes. -/
import Derived.Test.YtgeajdfajfdjcaaPackBackW
import Derived.Test.YtgeajdfajfdjcaaPcT
import Derived.Laws.IdiomStrings
namespace Go.Proofs.Ytgeajdfajfdjcaa
set_option linter.unusedVariables false
set_option linter.unusedSimpArgs false
open Go.ChangeShapes Go.WideShapes Go.ChangeAt Go.RowKit

theorem be4 (z : Int) : beZ 4 z = [UInt8.ofNat (z / 16777216 % 256).toNat, UInt8.ofNat (z / 65536 % 256).toNat, UInt8.ofNat (z / 256 % 256).toNat, UInt8.ofNat (z % 256).toNat] := by
  simp [beZ]
set_option maxHeartbeats 4000000 in
set_option maxRecDepth 100000 in
theorem be18_any (z : Int) (h0 : 0 ≤ z) (h1 : z ≤ 100000) (w : World) : Calls Try.prog 19 #[.int .i64 z] w fun e w' => e = .returned (.string ⟨(beZ 4 z).toArray⟩) ∧ Hid (Below w.heap.size w w') := by
  have hcv : (convert 56 9 (.slice (some ⟨w.heap.size, 0, none⟩) 4 4)).run Try.prog (w.alloc (.cells #[.int .u8 (z / 16777216), .int .u8 (z / 65536), .int .u8 (z / 256 % 256), .int .u8 (z % 256)] 5)) = .ok (.string ⟨(beZ 4 z).toArray⟩) (w.alloc (.cells #[.int .u8 (z / 16777216), .int .u8 (z / 65536), .int .u8 (z / 256 % 256), .int .u8 (z % 256)] 5)) := by
    have h := run_convert_bytes_back (P := Try.prog) (w.alloc (.cells #[.int .u8 (z / 16777216), .int .u8 (z / 65536), .int .u8 (z / 256 % 256), .int .u8 (z % 256)] 5)) 56 9 5 ⟨w.heap.size, 0, none⟩ 4 (beZ 4 z) Try.underlying56 Try.underlying5 Try.underlying9 (fun j hj => by
      have hj4 : j < 4 := by rw [beZ_len] at hj; exact hj
      have hadd : (⟨w.heap.size, 0, none⟩ : Addr).add j = ⟨w.heap.size, j, none⟩ := by simp [Addr.add]; exact fun h9 => h9.symm
      rw [hadd, Lib.cell_of_heap (heap_alloc_new w _)]
      have e0 : z / 16777216 % 256 = z / 16777216 := by omega
      have e1 : z / 65536 % 256 = z / 65536 := by omega
      have t0 := toNat_ofNat8 (z / 16777216)
      have t1 := toNat_ofNat8 (z / 65536)
      have t2 := toNat_ofNat8 (z / 256)
      have t3 := toNat_ofNat8 z
      rw [e0] at t0
      rw [e1] at t1
      obtain rfl | rfl | rfl | rfl : j = 0 ∨ j = 1 ∨ j = 2 ∨ j = 3 := by omega
      · simp only [be4, List.getElem_cons_zero, e0, t0]; rfl
      · simp only [be4, List.getElem_cons_zero, List.getElem_cons_succ, e1, t1]; rfl
      · simp only [be4, List.getElem_cons_zero, List.getElem_cons_succ, t2]; rfl
      · simp only [be4, List.getElem_cons_zero, List.getElem_cons_succ, t3]; rfl)
    rw [beZ_len] at h
    exact h
  go_enter Try.func19, Try.ntmps19
  go_wp2
  go_ret
  exact ⟨rfl, bel1 _ _⟩
end Go.Proofs.Ytgeajdfajfdjcaa
