/- The document's decimal numbers: of a number that is not negative. -/
import Derived.Test.YtdoibpgkfdpbdaaLexAwake
namespace Go.Proofs.Ytdoibpgkfdpbdaa
set_option linter.unusedVariables false
open Go.ChangeShapes Go.WideShapes Go.ChangeAt Go.RowKit

def decF : Nat → Nat → List Int → List Int
  | 0, _, acc => acc
  | f + 1, n, acc => if n = 0 ∧ acc ≠ [] then acc else decF f (n / 10) ((48 + ((n % 10 : Nat) : Int)) :: acc)
def decT (n : Nat) : ByteArray := strOf (decF 20 n [])
theorem decF_done (f : Nat) (acc : List Int) (h : acc ≠ []) : decF f 0 acc = acc := by
  cases f with
  | zero => rfl
  | succ f => rw [decF, if_pos ⟨rfl, h⟩]
theorem pow_div {z f : Nat} (h : z < 10 ^ (f + 1)) : z / 10 < 10 ^ f := by
  rw [Nat.pow_succ] at h; omega
set_option maxHeartbeats 4000000 in
set_option maxRecDepth 100000 in
theorem decimal_any (n : Nat) (hn : n < 9223372036854775808) (w : World) : Calls Try.prog 11 #[.int .i64 (n : Int)] w fun e w' => e = .returned (.string (decT n)) ∧ Below w.heap.size w w' := by
  obtain ⟨i, hi0, hz0, hz1, hz2⟩ := info_parts Try.infoByte
  have HI : Hid (Try.prog.info? 5 = some i ∧ i.zero = some (.int .u8 0) ∧ i.size = 1 ∧ i.bytes = 1) := ⟨hi0, hz0, hz1, hz2⟩
  clear hi0 hz0 hz1 hz2
  obtain ⟨R, hR⟩ : ∃ R, R = decF 20 n [] := ⟨_, rfl⟩
  have HR : Hid (decF 20 n [] = R) := hR.symm
  rw [show decT n = strOf R by rw [hR]; rfl]
  clear hR
  go_enter Try.func11, Try.ntmps11
  go_wp2
  go_loopw [3, 4] (fun x o wr => ∃ (z f : Nat) (acc : List Int) (p : Option Addr) (c : Nat), x = .int .u64 z ∧ o = .slice p acc.length c ∧ z < 9223372036854775808 ∧ Hid (z < 10 ^ f) ∧ Hid (acc = [] → 1 ≤ f) ∧ acc.length + f = 20 ∧ Hid (acc = [] → o = .slice none 0 0) ∧ Hid (decF f z acc = R) ∧ Hid (wr.ownsRow w.heap.size 5 1 o acc.length (bytesV acc)) ∧ Hid (Below w.heap.size w wr)) (fun x o _ => 2 * (intOf x).toNat + (match o with | .slice _ 0 _ => 1 | _ => 0))
  case atStart => exact ⟨n, 20, [], none, 0, by go_num, rfl, hn, by show n < 10 ^ 20; omega, fun _ => by omega, rfl, fun _ => rfl, HR, World.ownsRow_nil _ _ _ _, Below.refl _ _⟩
  case round =>
    obtain ⟨z, f, acc, p, c, rfl, rfl, hz, HF, HF1, hlen, HN, HD, OW, BB⟩ := hrel
    have hsz : w.heap.size ≤ wr.heap.size := BB.out.size
    have d1 : (z : Int) % 10 < 10 := by omega
    have d0 : 0 ≤ (z : Int) % 10 := by omega
    by_cases hacc : acc = []
    · subst hacc
      have HNN := HN.out rfl
      injection HNN with HNp _ HNc
      subst HNp; subst HNc
      have hf : 1 ≤ f := HF1.out rfl
      obtain ⟨f, rfl⟩ : ∃ g, f = g + 1 := ⟨f - 1, by omega⟩
      clear HN HF1
      by_cases hz0 : z = 0
      · subst hz0
        go_wp2
        refine ⟨⟨0, f, [48], _, _, rfl, rfl, by decide, Nat.pow_pos (by decide), fun h => by simp at h, ?_, fun h => by simp at h, ?_, ?_, BB.out.alloc hsz _⟩, ?_⟩
        · simp at hlen ⊢; omega
        · have := HD.out; rwa [decF, if_neg (by simp)] at this
        · exact World.ownsRow_lit wr #[.int .u8 48] 1 hsz (by unfold maxLen; omega) rfl
        · simp [intOf]
      · go_wp2
        refine ⟨⟨z / 10, f, [48 + ((z % 10 : Nat) : Int)], _, _, by congr 1, rfl, by omega, ?_, fun h => by simp at h, ?_, fun h => by simp at h, ?_, ?_, BB.out.alloc hsz _⟩, ?_⟩
        · exact pow_div HF.out
        · simp at hlen ⊢; omega
        · have := HD.out; rwa [decF, if_neg (by simp)] at this
        · exact World.ownsRow_lit wr #[.int .u8 (48 + (z : Int) % 10)] 1 hsz (by unfold maxLen; omega) rfl
        · simp [intOf]; omega
    · have hpos : 0 < acc.length := List.length_pos_iff.mpr hacc
      obtain ⟨g, cap, cur, hv, hg0, hg, hk, hm, hcs, hcur⟩ := (OW.out.2.resolve_left (fun h => by omega))
      injection hv with hp _ hc
      subst hp; subst hc
      clear HN HF1
      by_cases hz0 : z = 0
      · subst hz0
        have HDD := HD.out
        rw [decF_done _ _ hacc] at HDD
        have cv := conv_row OW.out
        have HD2 : Hid (acc = R) := HDD
        clear hg hk hm hcs hcur HDD hacc HD
        go_wp2
        go_ret
        exact ⟨by rw [HD2.out]; rfl, BB.out⟩
      · obtain ⟨f, rfl⟩ : ∃ g, f = g + 1 := ⟨f - 1, by
          cases f with
          | zero => have := HF.out; simp at this; omega
          | succ f => omega⟩
        have hl : acc.length ≤ 19 := by omega
        obtain ⟨W, hW⟩ : ∃ W, W = wr.alloc (.cells #[.int .u8 (48 + (z : Int) % 10)] 5) := ⟨_, rfl⟩
        have NEW : Hid (∀ j u, (bytesV acc)[j]? = some u → W.cell? ((⟨g, 0, none⟩ : Addr).add j) = some u) := by
          intro j u hu
          rw [← hcur] at hu
          have hg' : W.heap[g]? = some (.cells cur 5 (0, 0)) := by rw [hW, heap_alloc_old wr _ (Array.getElem?_eq_some_iff.mp hg).1]; exact hg
          refine World.news_of_block hg' j u ?_
          rw [List.getElem?_take] at hu; split at hu
          · exact hu
          · cases hu
        have ONE : Hid (∀ u, u ∈ bytesV acc → u.oneCell' = true) := by
          show ∀ u, _ → _
          intro u hu; rw [bytesV, List.mem_map] at hu; obtain ⟨x, -, rfl⟩ := hu; rfl
        have MX : Hid (1 + acc.length ≤ maxLen) := by show _ ≤ _; unfold maxLen; omega
        have BY : Hid ((1 + acc.length) * 1 ≤ 140737488355328) := by show _ ≤ _; omega
        have LB : Hid ((bytesV acc).length = acc.length * 1) := by show _ = _; rw [bytesV, List.length_map, Nat.mul_one]
        have OL : Hid (W.ownsRow w.heap.size 5 1 (.slice (some ⟨wr.heap.size, 0, none⟩) 1 1) 1 [.int .u8 (48 + (z : Int) % 10)]) := by rw [hW]; exact World.ownsRow_lit wr #[.int .u8 (48 + (z : Int) % 10)] 1 hsz (by unfold maxLen; omega) rfl
        have BW : Hid (Below w.heap.size w W) := by rw [hW]; exact BB.out.alloc hsz _
        have hszW : w.heap.size ≤ W.heap.size := BW.out.size
        clear hg hk hm hcs hcur
        go_wp2_with (at_builtin; rw [← hW]; refine wpList_append_own _ rfl _ _ 61 rfl w.heap.size 5 i (.int .u8 0) 1 1 Try.underlying61 HI.out.1 HI.out.2.1 HI.out.2.2.1 HI.out.2.2.2 rfl (by decide) _ _ _ rfl OL.out ⟨g, 0, none⟩ acc.length c (bytesV acc) rfl LB.out NEW.out ONE.out MX.out BY.out hszW ?_)
        intro v' w2 hown' hgrow hnil
        rw [← hW] at hgrow
        clear hnil
        obtain ⟨po', co', hv'⟩ := row_slice hown'
        subst hv'
        have OW2 : Hid (w2.ownsRow w.heap.size 5 1 (.slice po' (1 + acc.length) co') (1 + acc.length) (bytesV ((48 + ((z % 10 : Nat) : Int)) :: acc))) := hown'
        have BB2 : Hid (Below w.heap.size w w2) := BW.out.grown hgrow hszW (fun x hx => (OL.out.lt x hx).1)
        clear hown' hgrow
        go_wp2
        go_roundw
        case rel => exact ⟨z / 10, f, (48 + ((z % 10 : Nat) : Int)) :: acc, _, _, by congr 1, by rw [List.length_cons, Nat.add_comm], by omega, pow_div HF.out, fun h => by simp at h, by simp; omega, fun h => by simp at h, by have := HD.out; rwa [decF, if_neg (fun h => hz0 h.1)] at this, (by show World.ownsRow _ _ _ _ _ _ _; rw [List.length_cons, Nat.add_comm acc.length 1]; exact OW2.out), BB2.out⟩
        case measure => simp [intOf]; omega
end Go.Proofs.Ytdoibpgkfdpbdaa
