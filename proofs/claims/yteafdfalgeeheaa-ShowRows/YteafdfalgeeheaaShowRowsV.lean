/- ShowRows: its numbers, and what Show says. -/
import Derived.Test.YteafdfalgeeheaaShowRowsW
import Derived.Test.YteafdfalgeeheaaShowAwake
namespace Go.Proofs.Yteafdfalgeeheaa
set_option linter.unusedVariables false
open Go.ChangeShapes Go.WideShapes Go.ChangeAt Go.RowKit

theorem showRows_walk (W : World) (v : Value) (zs : List Int) (row : IRow W v zs) (wz : ∀ z, z ∈ zs → (Lit.int .i64 z).wf = true) (hz : zs.length * 8 ≤ 140737488351232) (a : Int) (wa : (Lit.int .i64 a).wf = true) (b : Int) (wb : (Lit.int .i64 b).wf = true) :
    Calls Try.prog 6 #[v, .int .i64 a, .int .i64 b] W fun e W' => e = .returned (.bool true) ∧ Below W.heap.size W W' := by
  obtain ⟨x, hx, hxa⟩ := and3 (zs.length : Int)
  obtain ⟨st, hst1, hst⟩ := start_S b x hx
  have hcc : ∀ i : Nat, (bits .and .i64 (a / 2 ^ i) 3).toNat < 4 := fun i => by
    obtain ⟨n, hn, e⟩ := and3 (a / 2 ^ i)
    rw [e]; omega
  have hce : ∀ i : Nat, bits .and .i64 (a / 2 ^ i) 3 = (((bits .and .i64 (a / 2 ^ i) 3).toNat : Nat) : Int) := fun i => by
    obtain ⟨n, hn, e⟩ := and3 (a / 2 ^ i)
    rw [e]; rfl
  have hmm := mmS_lt zs
  have hM : mayG (grS (fun i => mmS zs i + 1) (fun i : Nat => (bits .and .i64 (a / 2 ^ i) 3).toNat + 1) st (x + 1)) = true :=
    may_S (by omega) hst1 (fun i => by have := hmm i; show 1 ≤ mmS zs i + 1 ∧ mmS zs i + 1 ≤ 4; omega) (fun i => by have := hcc i; show 1 ≤ (bits .and .i64 (a / 2 ^ i) 3).toNat + 1 ∧ (bits .and .i64 (a / 2 ^ i) 3).toNat + 1 ≤ 4; omega)
  have hL := show_S (fun i => mmS zs i + 1) (fun i : Nat => (bits .and .i64 (a / 2 ^ i) 3).toNat + 1) hst1
  refine showRows_core W v zs row hz a b x hx hxa st hst1 hst (fun i => mmS zs i + 1) (fun i : Nat => (bits .and .i64 (a / 2 ^ i) 3).toNat + 1) (mmS zs) (fun i : Nat => (bits .and .i64 (a / 2 ^ i) 3).toNat) (fun _ => rfl) (fun _ => rfl) hmm hcc rfl hce (showT (grS (fun i => mmS zs i + 1) (fun i : Nat => (bits .and .i64 (a / 2 ^ i) 3).toNat + 1) st (x + 1))) ?_ awake5_any ?_
  · rw [← hL]; rfl
  · intro v1 v2 w hg
    exact show_ok _ v1 v2 w hg (fun s hs => by have := nm_sizeS hs; unfold maxLen; omega) (rus_short _ _ _) hM (by have := show_len hM; omega)
end Go.Proofs.Yteafdfalgeeheaa
