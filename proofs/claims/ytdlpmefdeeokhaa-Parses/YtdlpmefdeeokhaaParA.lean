/- The document's parser: an alternative. -/
import Derived.Test.YtdlpmefdeeokhaaParC
namespace Go.Proofs.Ytdlpmefdeeokhaa
set_option linter.unusedVariables false
set_option linter.unusedSimpArgs false
open Go.ChangeShapes Go.WideShapes Go.ChangeAt Go.RowKit

theorem Try.infoCjP : (Try.prog.info? 45).map (fun i => (i.zero, i.size, i.bytes)) = some (some (.agg #[.bool false, .slice none 0 0]), 2, 32) := by kernel_rfl
/-- What a call of alt leaves. -/
def AlR (n : Nat) (ts : List Tok) (S : List ByteArray) (D : List Df) (sn nm : ByteArray) (AL : List (List Cj)) (R : Pres) (w w' : World) (v : Value) (k' : Nat) (ok : Bool) : Prop :=
  (ok = true → ∃ A neg items, IsCjs w' (fun b => w.heap.size ≤ b ∧ b < w'.heap.size) v (A ++ [⟨neg, items⟩]) ∧ rs n ts ⟨6, S, D, sn, nm, AL, A, neg, items⟩ k' = R ∧ itB ts k' = false ∧ isB ts k' 6 = false) ∧ (ok = false → R = .error (plc n ts k', 300))
/-- A conjunct more in an alternative's row. -/
theorem alt_step {pb gg cap m : Nat} {B : Nat} {V w2 w5 : World} {F : Nat → Prop} {A : List Cj} {vs : List Value} {v iv : Value} {neg : Bool} {items : List It} {o o2 : Obj} (hpb : pb < B) (hBV : B ≤ V.heap.size) (x2 : Bx pb V w2) (how : V.ownsRow B 45 2 v m (cjsV A vs)) (hin : CjsIn V F A vs) (hF : ∀ b, F b → B ≤ b ∧ b < V.heap.size ∧ v.ownBlock ≠ some b) (hii : IsIts w2 (fun b => V.heap.size ≤ b ∧ b < w2.heap.size) iv items)
    (hg : ((w2.alloc o).alloc o2).grownBy w5 v.ownBlock) (hown : w5.ownsRow B 45 2 (.slice (some ⟨gg, 0, none⟩) (m + 1) cap) (m + 1) (cjsV A vs ++ [.bool neg, iv])) (hat : v.ownBlock = some gg ∨ gg = w2.heap.size + 1 + 1) :
    w5.ownsRow B 45 2 (.slice (some ⟨gg, 0, none⟩) (m + 1) cap) (m + 1) (cjsV (A ++ [⟨neg, items⟩]) (vs ++ [iv])) ∧ CjsIn w5 (fun b => F b ∨ (V.heap.size ≤ b ∧ b < w2.heap.size)) (A ++ [⟨neg, items⟩]) (vs ++ [iv]) ∧ (∀ b, (F b ∨ (V.heap.size ≤ b ∧ b < w2.heap.size)) → B ≤ b ∧ b < w5.heap.size ∧ (Value.slice (some ⟨gg, 0, none⟩) (m + 1) cap).ownBlock ≠ some b) ∧ Below B w2 w5 := by
  have h2s := x2.size
  have hgs := hg.size
  simp at hgs
  have hB2 : Below w2.heap.size w2 ((w2.alloc o).alloc o2) := ((Below.refl w2.heap.size w2).alloc (Nat.le_refl _) o).alloc (by simp) o2
  have hB : Below B w2 w5 := (((Below.refl B w2).alloc (by omega) o).alloc (by simp; omega) o2).grown hg (by simp; omega) (fun x e => (how.lt x e).1)
  refine ⟨?_, ?_, fun b hb => ?_, hB⟩
  · rw [cjsV_append _ _ _ _ hin.1]; exact hown
  · refine in_snoc (P := fun (c : Cj) (u : Value) => IsIts w5 (fun b => F b ∨ (V.heap.size ≤ b ∧ b < w2.heap.size)) u c.items) hin.1 (fun k c u h1 h2 => (hin.2 k c u h1 h2).keep ⟨by omega, fun b hb => ?_⟩ (fun b hb => Or.inl hb)) (hii.keep ⟨by omega, fun b hb => ?_⟩ (fun b hb => Or.inr hb))
    · obtain ⟨f1, f2, f3⟩ := hF b hb
      exact (hg.block b (by simp; omega) (Ne.symm f3)).trans ((hB2.block b (by omega)).trans (x2.block b f2 (by omega)))
    · exact (hg.block b (by simp; omega) (fun e => by have := (how.lt b e.symm).2; omega)).trans (hB2.block b (by omega))
  · rcases hb with hb | hb
    · obtain ⟨f1, f2, f3⟩ := hF b hb
      refine ⟨f1, by omega, fun e => ?_⟩
      obtain rfl : gg = b := by injection e
      rcases hat with h | h
      · exact f3 h
      · omega
    · refine ⟨by omega, by omega, fun e => ?_⟩
      obtain rfl : gg = b := by injection e
      rcases hat with h | h
      · have := (how.lt gg h).2; omega
      · omega
set_option maxHeartbeats 8000000 in
set_option maxRecDepth 100000 in
theorem pAlt_any {pb N tc k n : Nat} {tp : Option Addr} {ts : List Tok} {w : World} {S : List ByteArray} {D : List Df} {sn nm : ByteArray} {AL : List (List Cj)} {R : Pres} (z : Zs pb tp N tc ts k w) (hR : rs n ts ⟨4, S, D, sn, nm, AL, [], false, []⟩ k = R) :
    Calls Try.prog 50 #[.pointer (some ⟨pb, 0, none⟩)] w fun e w' => ∃ p m c k' ok, e = .returned (.tuple #[.slice p m c, .bool ok]) ∧ Hid (Zs pb tp N tc ts k' w') ∧ Hid (Bx pb w w') ∧ Hid (k ≤ k' ∧ (ok = true → k < k')) ∧ Hid (AlR n ts S D sn nm AL R w w' (.slice p m c) k' ok) := by
  have HZ := hid_ofP z
  have HR0 := hid_ofP hR
  have hpl := z.lt
  have hM9 := z.hM
  have hkN9 := z.hk
  obtain ⟨it, hi0, hi1, hi2, hi3⟩ := info_parts Try.infoCjP
  have HI : Hid (Try.prog.info? 45 = some it ∧ it.zero = some (.agg #[.bool false, .slice none 0 0]) ∧ it.size = 2 ∧ it.bytes = 32) := ⟨hi0, hi1, hi2, hi3⟩
  clear z hR hi0 hi1 hi2 hi3
  go_enter Try.func50, Try.ntmps50
  go_wp2
  go_loopg [4] (N + 1 - k) (fun gk ov wr => ∃ (kk : Nat) (A : List Cj) (p : Option Addr) (c : Nat) (vs : List Value) (F : Nat → Prop), kk + gk = N + 1 ∧ kk ≤ N ∧ A.length ≤ kk ∧ ov = .slice p A.length c ∧ Hid (Zs pb tp N tc ts kk wr) ∧ Hid (Bx pb w wr) ∧ Hid (wr.ownsRow w.heap.size 45 2 (.slice p A.length c) A.length (cjsV A vs)) ∧ Hid (CjsIn wr F A vs) ∧ Hid (∀ b, F b → w.heap.size ≤ b ∧ b < wr.heap.size ∧ (Value.slice p A.length c).ownBlock ≠ some b) ∧ Hid (rs n ts ⟨4, S, D, sn, nm, AL, A, false, []⟩ kk = R) ∧ Hid (k ≤ kk))
  case atStart => exact ⟨k, [], none, 0, [], fun _ => False, by omega, hkN9, Nat.zero_le _, rfl, HZ, Bx.refl _ _, World.ownsRow_nil _ _ _ _, ⟨rfl, fun k c u h => by simp at h⟩, fun b h => h.elim, HR0, Nat.le_refl _⟩
  case round =>
    obtain ⟨kk, A, p, c, vs, F, hgk, hkN, hlk, rfl, HZk, HXk, HOW, HIN, HF, HRk, HLk⟩ := hrel
    clear HR0
    obtain ⟨V, hV⟩ : ∃ x, x = wr := ⟨_, rfl⟩
    subst hV
    obtain ⟨m, hm⟩ : ∃ x, x = A.length := ⟨_, rfl⟩
    have HM : Hid (m = A.length) := hm
    rw [← hm] at HOW HF hlk ⊢
    clear hm
    have K2 := pConj_any (n := n) HZk.out HRk.out
    have HPL : Hid (pb < w.heap.size) := hpl
    have HOW2 : Hid (∀ w2, Bx pb V w2 → w2.ownsRow w.heap.size 45 2 (.slice p m c) m (cjsV A vs) ∧ w.heap.size ≤ w2.heap.size) := fun w2 x2 => ⟨x2.row HOW.out (fun e => by have := (HOW.out.lt pb e).1; have := HPL.out; omega), Nat.le_trans HXk.out.size x2.size⟩
    have MX : Hid (m + 1 ≤ maxLen) := by show _ ≤ _; unfold maxLen; omega
    have BY : Hid ((m + 1) * 32 ≤ 140737488355328) := by show _ ≤ _; omega
    clear hpl
    go_upto_region 3 with (go_at_call 64; refine K2.mono ?_; rintro e w2 ⟨neg, p2, m2, c2, k2, ok, rfl, z2, x2, hk2, cj⟩)
    obtain ⟨ow2, hw2⟩ := HOW2.out w2 x2.out
    have OW := hid_ofP ow2
    have XX : Hid (Bx pb w w2) := HXk.out.trans x2.out
    have HB1 : Hid (Below w.heap.size w2 (w2.alloc (.cells #[.bool neg, .slice p2 m2 c2] 45))) := (Below.refl w.heap.size w2).alloc hw2 _
    clear ow2 HOW2 K2
    cases ok with
    | false =>
      have HE : Hid (R = .error (plc n ts k2, 300)) := cj.out.2 rfl
      go_wp2
      refine bodyPost_ret (v := .tuple #[.slice none 0 0, .bool false]) (by simp [results, Try.results50, go_sem]) rfl ?_
      exact ⟨none, 0, 0, k2, false, rfl, HZ.out.thenB z2.out XX.out (Nat.le_refl _) HB1.out, XX.out.thenB (Nat.le_refl _) HB1.out, ⟨by have := hk2.out.1; have := HLk.out; omega, fun h => (by cases h)⟩, ⟨fun h => (by cases h), fun _ => HE.out⟩⟩
    | true =>
      obtain ⟨items, ii, hr2, hit⟩ := cj.out.1 rfl
      have hk2b := hk2.out.2 rfl
      have hk2N := z2.out.hk
      have HIT := hid_ofP hit
      have HR2 := hid_ofP hr2
      have HST : Hid (∀ (w5 : World) (gg cap : Nat), ((w2.alloc (.cells #[.bool neg, .slice p2 m2 c2] 45)).alloc (.cells #[.bool neg, .slice p2 m2 c2] 45)).grownBy w5 (Value.slice p m c).ownBlock → w5.ownsRow w.heap.size 45 2 (.slice (some ⟨gg, 0, none⟩) (m + 1) cap) (m + 1) (cjsV A vs ++ [.bool neg, .slice p2 m2 c2]) → ((Value.slice p m c).ownBlock = some gg ∨ gg = w2.heap.size + 1 + 1) →
          (w5.ownsRow w.heap.size 45 2 (.slice (some ⟨gg, 0, none⟩) (m + 1) cap) (m + 1) (cjsV (A ++ [⟨neg, items⟩]) (vs ++ [.slice p2 m2 c2])) ∧ CjsIn w5 (fun b => F b ∨ (V.heap.size ≤ b ∧ b < w2.heap.size)) (A ++ [⟨neg, items⟩]) (vs ++ [.slice p2 m2 c2]) ∧ (∀ b, (F b ∨ (V.heap.size ≤ b ∧ b < w2.heap.size)) → w.heap.size ≤ b ∧ b < w5.heap.size ∧ (Value.slice (some ⟨gg, 0, none⟩) (m + 1) cap).ownBlock ≠ some b)) ∧ Zs pb tp N tc ts k2 w5 ∧ Bx pb w w5) := fun w5 gg cap hg hown hat => by
        obtain ⟨s1, s2, s3, s4⟩ := alt_step (items := items) HPL.out HXk.out.size x2.out HOW.out HIN.out HF.out ii hg hown hat
        exact ⟨⟨s1, s2, s3⟩, HZ.out.thenB z2.out XX.out (Nat.le_refl _) s4, XX.out.thenB (Nat.le_refl _) s4⟩
      have NEWB : Hid (((w2.alloc (.cells #[.bool neg, .slice p2 m2 c2] 45)).alloc (.cells #[.bool neg, .slice p2 m2 c2] 45)).heap[w2.heap.size + 1]? = some (.cells #[.bool neg, .slice p2 m2 c2] 45)) := by
        have h := heap_alloc_new (w2.alloc (.cells #[.bool neg, .slice p2 m2 c2] 45)) (.cells #[.bool neg, .slice p2 m2 c2] 45)
        rw [show (w2.alloc (.cells #[.bool neg, .slice p2 m2 c2] 45)).heap.size = w2.heap.size + 1 by simp] at h
        exact h
      have HLL : Hid ((A ++ [(⟨neg, items⟩ : Cj)]).length = m + 1) := by show _ = _; rw [List.length_append, ← HM.out]; rfl
      clear cj hit hr2 ii hk2 HXk
      cases h6 : isB ts k2 6 with
      | true =>
        have HR6 : Hid (rs n ts ⟨4, S, D, sn, nm, AL, A ++ [⟨neg, items⟩], false, []⟩ (k2 + 1) = R ∧ k2 < N) := by
          obtain ⟨t, ht, h7⟩ := isB_some h6
          have e : take ⟨6, S, D, sn, nm, AL, A, neg, items⟩ t = some ⟨4, S, D, sn, nm, AL, A ++ [⟨neg, items⟩], false, []⟩ := by
            show take6 _ t = _
            unfold take6
            rw [if_pos h7]
            rfl
          exact ⟨by rw [← HR2.out, rs_step ht e], z2.out.smT ht⟩
        have K6 : Hid (∀ w5, Zs pb tp N tc ts k2 w5 → Calls Try.prog 33 #[.pointer (some ⟨pb, 0, none⟩), .int .i64 6] w5 fun e w' => e = .returned (.bool true) ∧ Hid (Zs pb tp N tc ts (k2 + 1) w') ∧ Hid (Bx pb w5 w')) := fun w5 z5 => (pIs_any (kd := 6) z5).mono fun e w' ⟨h1, h2, h3⟩ => by rw [h6] at h1 h2; exact ⟨h1, h2, h3⟩
        clear h6
        go_wp2_with (first
          | (at_builtin; refine wpList_append_lies _ rfl _ _ 42 rfl w.heap.size 45 it (.agg #[.bool false, .slice none 0 0]) 2 32 Try.underlying42 HI.out.1 HI.out.2.1 HI.out.2.2.1 HI.out.2.2.2 rfl (by decide) _ _ _ rfl ((OW.out.alloc _).alloc _) ⟨w2.heap.size + 1, 0, none⟩ 1 1 [.bool neg, .slice p2 m2 c2] rfl rfl (World.news_of_block (cs := #[.bool neg, .slice p2 m2 c2]) (t := 45) (fr := (0, 0)) NEWB.out) (fun x hx => by simp at hx; rcases hx with rfl | rfl <;> rfl) (by decide) MX.out BY.out (by simp; omega) (w2.heap.size + 1 + 1) (by simp) ?_; intro gg cap w5 hown hgrow hat hl; obtain ⟨⟨s1, s2, s3⟩, s4, s5⟩ := HST.out w5 gg cap hgrow hown hat; have S1 := hid_ofP s1; have S2 := hid_ofP s2; have S3 := hid_ofP s3; have S4 := hid_ofP s4; have S5 := hid_ofP s5; clear s1 s2 s3 s4 s5 hgrow hown hat hl)
          | (go_at_call 33; refine (K6.out _ S4.out).mono ?_; rintro e w6 ⟨rfl, z6, x6⟩))
        go_roundg (N - k2)
        case measure => omega
        case rel =>
          have ne : (Value.slice (some ⟨gg, 0, none⟩) (m + 1) cap).ownBlock ≠ some pb := fun e => by have := (S1.out.lt pb e).1; have := HPL.out; omega
          refine ⟨k2 + 1, A ++ [(⟨neg, items⟩ : Cj)], some ⟨gg, 0, none⟩, cap, vs ++ [.slice p2 m2 c2], (fun b => F b ∨ (V.heap.size ≤ b ∧ b < w2.heap.size)), by have := HR6.out.2; omega, by have := HR6.out.2; omega, by have := HLL.out; omega, by rw [HLL.out], z6, S5.out.trans x6.out, by rw [HLL.out]; exact x6.out.row S1.out ne, hid_ofP <| S2.out.keep (x6.out.stay (fun b hb => ⟨(S3.out b hb).2.1, by have := (S3.out b hb).1; have := HPL.out; omega⟩)) (fun _ h => h), ?_, HR6.out.1, by have := HLk.out; show _ ≤ _; omega⟩
          intro b hb
          have h9 := S3.out b hb
          rw [HLL.out]
          exact ⟨h9.1, Nat.lt_of_lt_of_le h9.2.1 x6.out.size, h9.2.2⟩
      | false =>
        have K6 : Hid (∀ w5, Zs pb tp N tc ts k2 w5 → Calls Try.prog 33 #[.pointer (some ⟨pb, 0, none⟩), .int .i64 6] w5 fun e w' => e = .returned (.bool false) ∧ Hid (Zs pb tp N tc ts k2 w') ∧ Hid (Bx pb w5 w')) := fun w5 z5 => (pIs_any (kd := 6) z5).mono fun e w' ⟨h1, h2, h3⟩ => by rw [h6] at h1 h2; exact ⟨h1, h2, h3⟩
        have H6 := hid_ofP h6
        clear h6
        go_wp2_with (first
          | (at_builtin; refine wpList_append_lies _ rfl _ _ 42 rfl w.heap.size 45 it (.agg #[.bool false, .slice none 0 0]) 2 32 Try.underlying42 HI.out.1 HI.out.2.1 HI.out.2.2.1 HI.out.2.2.2 rfl (by decide) _ _ _ rfl ((OW.out.alloc _).alloc _) ⟨w2.heap.size + 1, 0, none⟩ 1 1 [.bool neg, .slice p2 m2 c2] rfl rfl (World.news_of_block (cs := #[.bool neg, .slice p2 m2 c2]) (t := 45) (fr := (0, 0)) NEWB.out) (fun x hx => by simp at hx; rcases hx with rfl | rfl <;> rfl) (by decide) MX.out BY.out (by simp; omega) (w2.heap.size + 1 + 1) (by simp) ?_; intro gg cap w5 hown hgrow hat hl; obtain ⟨⟨s1, s2, s3⟩, s4, s5⟩ := HST.out w5 gg cap hgrow hown hat; have S1 := hid_ofP s1; have S2 := hid_ofP s2; have S3 := hid_ofP s3; have S4 := hid_ofP s4; have S5 := hid_ofP s5; clear s1 s2 s3 s4 s5 hgrow hown hat hl)
          | (go_at_call 33; refine (K6.out _ S4.out).mono ?_; rintro e w6 ⟨rfl, z6, x6⟩))
        have HPOST : Hid (AlR n ts S D sn nm AL R w w6 (.slice (some ⟨gg, 0, none⟩) (m + 1) cap) k2 true) := by
          refine ⟨fun _ => ⟨A, neg, items, ⟨vs ++ [.slice p2 m2 c2], ?_, ?_⟩, HR2.out, HIT.out, H6.out⟩, fun h => by cases h⟩
          · have ne : (Value.slice (some ⟨gg, 0, none⟩) (m + 1) cap).ownBlock ≠ some pb := fun e => by have := (S1.out.lt pb e).1; have := HPL.out; omega
            have h9 := x6.out.row S1.out ne
            rw [HLL.out]
            exact Reads.of h9 (fun q e => h9.lt q e)
          · exact S2.out.keep (x6.out.stay (fun b hb => ⟨(S3.out b hb).2.1, by have := (S3.out b hb).1; have := HPL.out; omega⟩)) (fun b hb => ⟨(S3.out b hb).1, Nat.lt_of_lt_of_le (S3.out b hb).2.1 x6.out.size⟩)
        refine bodyPost_ret (v := .tuple #[.slice (some ⟨gg, 0, none⟩) (m + 1) cap, .bool true]) (by simp [results, Try.results50, go_sem]) rfl ?_
        exact ⟨_, _, _, k2, true, rfl, z6, S5.out.trans x6.out, ⟨by have := HLk.out; omega, fun _ => by have := HLk.out; omega⟩, HPOST.out⟩
end Go.Proofs.Ytdlpmefdeeokhaa
