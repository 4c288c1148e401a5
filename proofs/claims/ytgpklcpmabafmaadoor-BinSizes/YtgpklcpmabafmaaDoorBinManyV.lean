/- BinMany: what Bin answers there. -/
import Derived.Test.YtgpklcpmabafmaaDoorBinManyW
import Derived.Test.YtgpklcpmabafmaaDoorBinAt
import Derived.Test.YtgpklcpmabafmaaDoorTiedB
namespace Go.Proofs.YtgpklcpmabafmaaDoor
set_option linter.unusedVariables false
set_option linter.unusedSimpArgs false
open Go.ChangeShapes Go.WideShapes Go.ChangeAt Go.RowKit

theorem may_M : ∀ r, r < 4 → mayG (grM (62 + r)) = true := by decide +kernel
theorem rows_M : ∀ r, r < 4 → (rowsR (grM (62 + r)).rules).length = 62 + r := by decide +kernel
theorem syms_M : ∀ r, r < 4 → symsR (cutR 1 0 (grM (62 + r)).rules) ≤ 100 := by decide +kernel
theorem S_not : ∀ k, k < 100 → nmS k ∉ [(⟨#[83]⟩ : ByteArray)] := fun k _ h => nmS_ne (k := k) (a := 83) (l := []) (by decide) (List.mem_singleton.1 h)
theorem many_bin (r : Nat) (hr : r ≤ 3) : ∀ v1 v2 w, GrIs w Any v1 v2 (grM (62 + r)) → Calls Tryd.prog 7 #[.agg #[.int .i64 0, v1, v2]] w fun e w' => ∃ z p n c p2 n2 c2, e = .returned (.tuple #[.agg #[.int .i64 0, .slice p n c, .slice p2 n2 c2], .int .i64 z]) ∧ (r ≤ 1 ∧ z = 0 ∧ n = 63 + r ∨ 1 < r ∧ z = 1401 ∧ n = 0) ∧ Hid (Below w.heap.size w w') := fun v1 v2 w hg => by
  have hR := rows_M r (by omega)
  have hM := may_M r (by omega)
  refine (bin_at (grM (62 + r)) ((List.range (62 + r)).map nmS) hR hM (by show 1 + (62 + r) ≤ 99; omega) (by simp) (fun m hm hl => ?_) v1 v2 w hg (fun s hs => by have e : s = ⟨#[83]⟩ := List.mem_singleton.1 hs; subst e; decide)).mono ?_
  · have e := fresh_allY (ns := (grM (62 + r)).names) S_not m (by omega)
    rw [e] at hl ⊢
    simp at hl
    rw [hl]
  · rintro e w' ⟨z, st, p1, n1, c1, p2, n2, c2, rfl, hc, hb⟩
    rcases hc.out with ⟨rfl, rfl, h3, rfl, rfl, -⟩ | ⟨rfl, h3, rfl, rfl, rfl, rfl, rfl, rfl, rfl⟩
    · refine ⟨0, p1, _, c1, p2, _, c2, rfl, Or.inl ⟨?_, rfl, ?_⟩, hb⟩
      · have h4 := mayG_namesB h3
        have h5 : (biG (grM (62 + r)) ((List.range (62 + r)).map nmS)).names.length = 1 + (62 + r) := by show ([_] ++ _).length = _; simp; omega
        omega
      · show 1 + (62 + r) = _; omega
    · refine ⟨1401, none, 0, 0, none, 0, 0, rfl, Or.inr ⟨?_, rfl, rfl⟩, hb⟩
      refine Nat.lt_of_not_le fun h1 => ?_
      have e1 : freshT dD (grM (62 + r)).names (62 + r) = (List.range (62 + r)).map nmS := by rw [fresh_eqY _ (by omega)]; exact fresh_allY S_not _ (by omega)
      have h4 : mayG (binG dD (grM (62 + r)) (62 + r)) = true := by
        refine bin_mayY hM (by rw [e1, hR]; simp) (by rw [hR]; show 1 + _ ≤ _; omega) (by rw [hR]; show 1 + _ ≤ _; omega) ?_
        rw [hR]
        have := syms_M r (by omega)
        show symsR (cutR 1 0 (grM (62 + r)).rules) + _ ≤ _
        omega
      have e2 : binG dD (grM (62 + r)) (62 + r) = biG (grM (62 + r)) ((List.range (62 + r)).map nmS) := by
        unfold binG biG
        rw [e1]
      rw [e2, h3] at h4
      cases h4
theorem binMany_walk (W : World) (_ : TabG W) (a : Int) (wa : (Lit.int .i64 a).wf = true) : Calls Tryd.prog 5 #[.int .i64 a] W fun e W' => e = .returned (.bool true) ∧ Below W.heap.size W W' := by
  obtain ⟨r, hr, e⟩ := and3V a
  exact binMany_core a r (by omega) e W awake14_any num_any (many_bin r (by omega))
end Go.Proofs.YtgpklcpmabafmaaDoor
