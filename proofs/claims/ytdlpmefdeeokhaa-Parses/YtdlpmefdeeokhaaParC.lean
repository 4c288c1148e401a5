/- The document's parser: a conjunct. -/
import Derived.Test.YtdlpmefdeeokhaaParN
import Derived.Deep.LoopGhost
namespace Go.Proofs.Ytdlpmefdeeokhaa
set_option linter.unusedVariables false
set_option linter.unusedSimpArgs false
open Go.ChangeShapes Go.WideShapes Go.ChangeAt Go.RowKit

theorem Try.infoItP : (Try.prog.info? 63).map (fun i => (i.zero, i.size, i.bytes)) = some (some (.agg #[.int .i64 0, .string ⟨#[]⟩, .int .i64 0, .int .i64 0]), 4, 40) := by kernel_rfl
/-- A machine within a conjunct: its items so far. -/
def pmC (S : List ByteArray) (D : List Df) (sn nm : ByteArray) (AL : List (List Cj)) (A : List Cj) (neg : Bool) (l : List It) : Pm := ⟨if l = [] then (if neg then 5 else 4) else 6, S, D, sn, nm, AL, A, neg, l⟩
theorem pmC_nil (S : List ByteArray) (D : List Df) (sn nm : ByteArray) (AL : List (List Cj)) (A : List Cj) : pmC S D sn nm AL A false [] = ⟨4, S, D, sn, nm, AL, A, false, []⟩ := rfl
theorem pmC_neg (S : List ByteArray) (D : List Df) (sn nm : ByteArray) (AL : List (List Cj)) (A : List Cj) : pmC S D sn nm AL A true [] = ⟨5, S, D, sn, nm, AL, A, true, []⟩ := rfl
theorem pmC_six {S : List ByteArray} {D : List Df} {sn nm : ByteArray} {AL : List (List Cj)} {A : List Cj} {neg : Bool} {l : List It} (h : l ≠ []) : pmC S D sn nm AL A neg l = ⟨6, S, D, sn, nm, AL, A, neg, l⟩ := by unfold pmC; rw [if_neg h]
theorem pmC_take {S : List ByteArray} {D : List Df} {sn nm : ByteArray} {AL : List (List Cj)} {A : List Cj} {neg : Bool} {l : List It} {t : Tok} (h : t.kind ≤ 2) : take (pmC S D sn nm AL A neg l) t = some (pmC S D sn nm AL A neg (l ++ [⟨(t.kind : Int), t.text, t.lo, t.hi⟩])) := by
  have e0 : pmC S D sn nm AL A neg (l ++ [⟨(t.kind : Int), t.text, t.lo, t.hi⟩]) = ⟨6, S, D, sn, nm, AL, A, neg, l ++ [⟨(t.kind : Int), t.text, t.lo, t.hi⟩]⟩ := pmC_six (by simp)
  rw [e0]
  by_cases hl : l = []
  · subst hl
    cases neg with
    | true =>
      rw [pmC_neg]
      show tItem _ t = _
      unfold tItem
      rw [if_pos h]
    | false =>
      rw [pmC_nil]
      show take4 _ t = _
      unfold take4
      rw [if_neg (by omega)]
      unfold tItem
      rw [if_pos h]
  · rw [pmC_six hl]
    show take6 _ t = _
    unfold take6
    rw [if_neg (by omega), if_neg (by omega), if_neg (by omega)]
    unfold tItem
    rw [if_pos h]
theorem pmC_none {S : List ByteArray} {D : List Df} {sn nm : ByteArray} {AL : List (List Cj)} {A : List Cj} {neg : Bool} {t : Tok} (h : 2 < t.kind) (h7 : neg = false → t.kind ≠ 7) : take (pmC S D sn nm AL A neg []) t = none := by
  cases neg with
  | true =>
    rw [pmC_neg]
    show tItem _ t = _
    unfold tItem
    rw [if_neg (by omega)]
  | false =>
    rw [pmC_nil]
    show take4 _ t = _
    unfold take4
    rw [if_neg (h7 rfl)]
    unfold tItem
    rw [if_neg (by omega)]
theorem row_noP {w : World} {b : Nat} {v : Value} {base e size n : Nat} {xs : List Value} {arr : Array Value} {t : TypeId} (h : w.ownsRow base e size v n xs) (he : t ≠ e) (hb : w.heap[b]? = some (.cells arr t)) : v.ownBlock ≠ some b := fun e1 => by
  obtain ⟨_, ⟨h2, _⟩ | ⟨g, cap, cur, h1, _, h3, _⟩⟩ := h
  · rw [h2] at e1; cases e1
  · rw [h1] at e1
    injection e1 with e1
    subst e1
    rw [hb] at h3
    injection h3 with h3
    injection h3 with _ h3
    exact he h3
theorem Bx.thenB {pb B : Nat} {w w2 w6 : World} (x : Bx pb w w2) (hB : w.heap.size ≤ B) (h : Below B w2 w6) : Bx pb w w6 := ⟨h.os.trans x.os, h.tape.trans x.tape, h.output.trans x.output, Nat.le_trans x.size h.size, fun i hi hn => (h.block i (by omega)).trans (x.block i hi hn)⟩
theorem Zs.thenB {pb B N tc k k2 : Nat} {tp : Option Addr} {ts : List Tok} {w w2 w6 : World} (z : Zs pb tp N tc ts k w) (z2 : Zs pb tp N tc ts k2 w2) (x : Bx pb w w2) (hB : w.heap.size ≤ B) (h : Below B w2 w6) : Zs pb tp N tc ts k2 w6 := z.mk2 (x.thenB hB h) z2.hk ((h.block pb (Nat.lt_of_lt_of_le z.lt hB)).trans z2.pz)
/-- What a call of conj leaves. -/
def CjR (n : Nat) (ts : List Tok) (S : List ByteArray) (D : List Df) (sn nm : ByteArray) (AL : List (List Cj)) (A : List Cj) (R : Pres) (w w' : World) (neg : Bool) (iv : Value) (k' : Nat) (ok : Bool) : Prop :=
  (ok = true → ∃ items, IsIts w' (fun b => w.heap.size ≤ b ∧ b < w'.heap.size) iv items ∧ rs n ts ⟨6, S, D, sn, nm, AL, A, neg, items⟩ k' = R ∧ itB ts k' = false) ∧ (ok = false → R = .error (plc n ts k', 300))
theorem results_cell_tmpP {fn : Func} {p q : Tmp} {ty : TypeId} (h : fn.results = #[.cell p ty, .tmp q]) (tmps : Array Value) (P : Program) (w : World) :
    (results fn tmps).run P w = ((asAddr (tmps.getD p undef)).run P w).andThen fun a w₁ => ((loadVar ty a).run P w₁).andThen fun v w₂ => .ok (.tuple #[v, tmps.getD q undef]) w₂ := by
  simp only [results, h]
  simp [Sem.run_bind, Result.andThen]
theorem set2 {w : World} {b : Nat} {x0 x1 : Value} {t : TypeId} (h : w.heap[b]? = some (.cells #[x0, x1] t)) (a b' : Value) : ((w.setCell ⟨b, 0, none⟩ a).setCell ⟨b, 1, none⟩ b').heap[b]? = some (.cells #[a, b'] t) := by
  simp [World.setCell, Array.getElem?_modify, h]
set_option maxHeartbeats 8000000 in
set_option maxRecDepth 100000 in
theorem pConj_any {pb N tc k n : Nat} {tp : Option Addr} {ts : List Tok} {w : World} {S : List ByteArray} {D : List Df} {sn nm : ByteArray} {AL : List (List Cj)} {A : List Cj} {R : Pres} (z : Zs pb tp N tc ts k w) (hR : rs n ts ⟨4, S, D, sn, nm, AL, A, false, []⟩ k = R) :
    Calls Try.prog 64 #[.pointer (some ⟨pb, 0, none⟩)] w fun e w' => ∃ neg p m c k' ok, e = .returned (.tuple #[.agg #[.bool neg, .slice p m c], .bool ok]) ∧ Hid (Zs pb tp N tc ts k' w') ∧ Hid (Bx pb w w') ∧ Hid (k ≤ k' ∧ (ok = true → k < k')) ∧ Hid (CjR n ts S D sn nm AL A R w w' neg (.slice p m c) k' ok) := by
  have HZ := hid_ofP z
  have hpl := z.lt
  have hM9 := z.hM
  obtain ⟨it, hi0, hi1, hi2, hi3⟩ := info_parts Try.infoItP
  have HI : Hid (Try.prog.info? 63 = some it ∧ it.zero = some (.agg #[.int .i64 0, .string ⟨#[]⟩, .int .i64 0, .int .i64 0]) ∧ it.size = 4 ∧ it.bytes = 40) := ⟨hi0, hi1, hi2, hi3⟩
  obtain ⟨b, hb⟩ : ∃ b, b = isB ts k 7 := ⟨_, rfl⟩
  have HB := hid_ofP hb
  obtain ⟨k1, hk1⟩ : ∃ x, x = (if b then k + 1 else k) := ⟨_, rfl⟩
  have HK1 := hid_ofP hk1
  have HR0 : Hid (rs n ts (pmC S D sn nm AL A b []) k1 = R) := by
    show _ = _
    rw [← hR, hk1]
    cases hc : b with
    | false => rfl
    | true =>
      rw [hc] at hb
      obtain ⟨t, ht, h7⟩ := isB_some hb.symm
      have e : take ⟨4, S, D, sn, nm, AL, A, false, []⟩ t = some ⟨5, S, D, sn, nm, AL, A, true, []⟩ := by
        show take4 _ t = _
        unfold take4
        rw [if_pos h7]
      rw [rs_step ht e]
      rfl
  have H7 : Hid (b = false → ∀ t, ts[k1]? = some t → t.kind ≠ 7) := fun hc t ht => by
    rw [hk1, hc] at ht
    rw [hc] at hb
    exact isB_none hb.symm t ht
  have HKK : Hid (k ≤ k1 ∧ k1 ≤ k + 1) := by show _ ∧ _; rw [hk1]; split <;> omega
  have K1 : Calls Try.prog 33 #[.pointer (some ⟨pb, 0, none⟩), .int .i64 7] (w.alloc (.cells #[.bool false, .slice none 0 0] 45)) fun e w' => e = .returned (.bool b) ∧ Hid (Zs pb tp N tc ts k1 w') ∧ Hid (Bx pb (w.alloc (.cells #[.bool false, .slice none 0 0] 45)) w') := by
    refine (pIs_any (kd := 7) (z.keep (bel1 _ _))).mono fun e w' ⟨h1, h2, h3⟩ => ?_
    rw [← hb] at h1 h2
    rw [← hk1] at h2
    exact ⟨h1, h2, h3⟩
  have HX0 : Hid ((w.alloc (.cells #[.bool false, .slice none 0 0] 45)).heap[w.heap.size]? = some (.cells #[.bool false, .slice none 0 0] 45)) := heap_alloc_new _ _
  clear z hR hb hk1 hi0 hi1 hi2 hi3
  go_enter Try.func64, Try.ntmps64
  go_wp2_with (go_at_call 33; refine K1.mono ?_; rintro e w1 ⟨rfl, z1, x1⟩)
  obtain ⟨cb, hcb⟩ : ∃ x, x = w1.heap.size := ⟨_, rfl⟩
  obtain ⟨rb, hrb⟩ : ∃ x, x = w.heap.size := ⟨_, rfl⟩
  have hs1 := x1.out.size
  have hs2 : (w.alloc (.cells #[.bool false, .slice none 0 0] 45)).heap.size = w.heap.size + 1 := by simp
  have XW : Bx pb w w1 := (Bx.of (bel1 w _)).trans x1.out
  have HRB : Hid (rb = w.heap.size ∧ rb < cb) := ⟨hrb, by omega⟩
  have HZ1 : Hid (Zs pb tp N tc ts k1 (w1.alloc (.cells #[.bool b, .slice none 0 0] 45))) := z1.out.keep (bel1 _ _)
  have HX1 : Hid (Bx pb w (w1.alloc (.cells #[.bool b, .slice none 0 0] 45))) := XW.trans (Bx.of (bel1 _ _))
  have HC1 : Hid ((w1.alloc (.cells #[.bool b, .slice none 0 0] 45)).heap[cb]? = some (.cells #[.bool b, .slice none 0 0] 45)) := by show _ = _; rw [hcb]; exact heap_alloc_new _ _
  have HQ1 : Hid ((w1.alloc (.cells #[.bool b, .slice none 0 0] 45)).heap[rb]? = some (.cells #[.bool false, .slice none 0 0] 45)) := by show _ = _; rw [hrb]; exact ((bel1 w1 _).block _ (by omega)).trans ((x1.out.block _ (by omega) (by omega)).trans HX0.out)
  obtain ⟨W2, hW2⟩ : ∃ x, x = w1.alloc (.cells #[.bool b, .slice none 0 0] 45) := ⟨_, rfl⟩
  rw [← hW2] at HZ1 HX1 HC1 HQ1 ⊢
  rw [← hcb, ← hrb]
  have HPB : Hid (pb < rb) := by show _ < _; omega
  clear hW2 hcb hrb hs1 hs2 XW HX0 K1 z1 x1
  go_loopg [] (N + 1 - k1) (fun gk wr => ∃ (kk : Nat) (l : List It) (p : Option Addr) (c : Nat), kk + gk = N + 1 ∧ kk ≤ N ∧ l.length ≤ kk ∧ Hid (Zs pb tp N tc ts kk wr) ∧ Hid (Bx pb w wr) ∧ Hid (wr.heap[cb]? = some (.cells #[.bool b, .slice p l.length c] 45)) ∧ Hid (wr.heap[rb]? = some (.cells #[.bool false, .slice none 0 0] 45)) ∧ Hid (wr.ownsRow w.heap.size 63 4 (.slice p l.length c) l.length (itsV l)) ∧ Hid (rs n ts (pmC S D sn nm AL A b l) kk = R) ∧ Hid (k1 ≤ kk ∧ (l = [] → kk = k1) ∧ (l ≠ [] → k1 < kk)))
  case atStart => exact ⟨k1, [], none, 0, by have := HZ1.out.hk; omega, HZ1.out.hk, Nat.zero_le _, HZ1, HX1, HC1, HQ1, World.ownsRow_nil _ _ _ _, HR0, Nat.le_refl _, fun _ => rfl, fun h => absurd rfl h⟩
  case round =>
    obtain ⟨kk, l, p, c, hgk, hkN, hlk, HZk, HXk, HCk, HQk, HOW, HRk, HLk⟩ := hrel
    clear HZ1 HX1 HC1 HQ1 HR0
    obtain ⟨V, hV⟩ : ∃ x, x = wr := ⟨_, rfl⟩
    subst hV
    obtain ⟨m, hm⟩ : ∃ x, x = l.length := ⟨_, rfl⟩
    have HM : Hid (m = l.length) := hm
    rw [← hm] at HCk HOW hlk
    clear hm
    cases hi : itB ts kk with
    | true =>
      --SA
      obtain ⟨t, ht, ht2⟩ := itB_some hi
      have K2 := pItem_yes HZk.out ht ht2
      have HT := hid_ofP ht
      have HT2 := hid_ofP ht2
      have hkk : kk < N := HZk.out.smT ht
      have MX : Hid (m + 1 ≤ maxLen) := by show _ ≤ _; unfold maxLen; omega
      have BY : Hid ((m + 1) * 40 ≤ 140737488355328) := by show _ ≤ _; omega
      obtain ⟨ti, hti⟩ : ∃ x : It, x = ⟨(t.kind : Int), t.text, t.lo, t.hi⟩ := ⟨_, rfl⟩
      have HTI := hid_ofP hti
      rw [show (t.kind : Int) = ti.kind by rw [hti], show t.text = ti.text by rw [hti], show t.lo = ti.lo by rw [hti], show t.hi = ti.hi by rw [hti]] at K2
      have HFI : Hid (∀ (w2 w5 : World) (o : Obj) (gg cap : Nat), Zs pb tp N tc ts (kk + 1) w2 → Bx pb V w2 → ((w2.alloc o).alloc (.cells #[.int .i64 ti.kind, .string ti.text, .int .i64 ti.lo, .int .i64 ti.hi] 63)).grownBy w5 (Value.slice p m c).ownBlock → w5.ownsRow w.heap.size 63 4 (.slice (some ⟨gg, 0, none⟩) (m + 1) cap) (m + 1) (itsV l ++ [.int .i64 ti.kind, .string ti.text, .int .i64 ti.lo, .int .i64 ti.hi]) →
          Hid (Zs pb tp N tc ts (kk + 1) (w5.setCell ⟨cb, 1, none⟩ (.slice (some ⟨gg, 0, none⟩) (m + 1) cap))) ∧ Hid (Bx pb w (w5.setCell ⟨cb, 1, none⟩ (.slice (some ⟨gg, 0, none⟩) (m + 1) cap))) ∧ Hid ((w5.setCell ⟨cb, 1, none⟩ (.slice (some ⟨gg, 0, none⟩) (m + 1) cap)).heap[cb]? = some (.cells #[.bool b, .slice (some ⟨gg, 0, none⟩) (m + 1) cap] 45)) ∧ Hid ((w5.setCell ⟨cb, 1, none⟩ (.slice (some ⟨gg, 0, none⟩) (m + 1) cap)).heap[rb]? = some (.cells #[.bool false, .slice none 0 0] 45)) ∧ Hid ((w5.setCell ⟨cb, 1, none⟩ (.slice (some ⟨gg, 0, none⟩) (m + 1) cap)).ownsRow w.heap.size 63 4 (.slice (some ⟨gg, 0, none⟩) (m + 1) cap) (m + 1) (itsV (l ++ [ti])))) := by
        intro w2 w5 o gg cap z2 x2 hg hown
        have hr := HRB.out
        have hp := HPB.out
        have XX := HXk.out.trans x2
        have hVs := HXk.out.size
        have h2s := x2.size
        have hcl := blkP_lt HCk.out
        have ow2 := x2.row HOW.out (fun e => by have := (HOW.out.lt pb e).1; omega)
        have hB : Below w.heap.size w2 (w5.setCell ⟨cb, 1, none⟩ (.slice (some ⟨gg, 0, none⟩) (m + 1) cap)) := ((((Below.refl w.heap.size w2).alloc (by omega) o).alloc (by simp; omega) _).grown hg (by simp; omega) (fun x e => (HOW.out.lt x e).1)).setCell (p := ⟨cb, 1, none⟩) (by show _ ≤ cb; omega) _
        have n1 : (Value.slice p m c).ownBlock ≠ some cb := row_noP HOW.out (by decide) HCk.out
        have n2 : (Value.slice p m c).ownBlock ≠ some rb := row_noP HOW.out (by decide) HQk.out
        have hcb5 : w5.heap[cb]? = some (.cells #[.bool b, .slice p m c] 45) := (hg.block cb (by simp; omega) (Ne.symm n1)).trans ((((Below.refl w2.heap.size w2).alloc (by omega) o).alloc (by simp) _).block cb (by omega) |>.trans ((x2.block cb hcl (by omega)).trans HCk.out))
        have hrb5 : w5.heap[rb]? = some (.cells #[.bool false, .slice none 0 0] 45) := (hg.block rb (by simp; omega) (Ne.symm n2)).trans ((((Below.refl w2.heap.size w2).alloc (by omega) o).alloc (by simp) _).block rb (by omega) |>.trans ((x2.block rb (by omega) (by omega)).trans HQk.out))
        refine ⟨HZ.out.thenB z2 XX (Nat.le_refl _) hB, XX.thenB (Nat.le_refl _) hB, heap_setCell_same w5 cb 1 _ _ _ hcb5, (Below.heap_setCell _ ⟨cb, 1, none⟩ _ _ (by show rb ≠ cb; omega)).trans hrb5, ?_⟩
        have e9 : itsV (l ++ [ti]) = itsV l ++ [.int .i64 ti.kind, .string ti.text, .int .i64 ti.lo, .int .i64 ti.hi] := by rw [itsV_append]; rfl
        show World.ownsRow _ _ _ _ _ _ _
        rw [e9]
        exact ownsRow_setCell_other (a := ⟨cb, 1, none⟩) hown (row_noP hown (by decide) hcb5) _
      have HRN : Hid (rs n ts (pmC S D sn nm AL A b (l ++ [ti])) (kk + 1) = R) := by
        show _ = _
        rw [← HRk.out, rs_step HT.out (pmC_take HT2.out), ← HTI.out]
      have OW2 : Hid (∀ w2, Bx pb V w2 → w2.ownsRow w.heap.size 63 4 (.slice p m c) m (itsV l)) := fun w2 x2 => x2.row HOW.out (fun e => by have := (HOW.out.lt pb e).1; have := HPB.out; have := HRB.out; omega)
      have C2 : Hid (∀ w2, Bx pb V w2 → w2.heap[cb]? = some (.cells #[.bool b, .slice p m c] 45) ∧ w.heap.size ≤ w2.heap.size ∧ cb < w2.heap.size) := fun w2 x2 => ⟨(x2.block cb (blkP_lt HCk.out) (by have := HPB.out; have := HRB.out; omega)).trans HCk.out, Nat.le_trans HXk.out.size x2.size, Nat.lt_of_lt_of_le (blkP_lt HCk.out) x2.size⟩
      have RN : Hid ((Value.slice p m c).ownBlock ≠ some cb) := row_noP HOW.out (by decide) HCk.out
      have ONE : Hid (∀ x ∈ [Value.int .i64 ti.kind, .string ti.text, .int .i64 ti.lo, .int .i64 ti.hi], x.oneCell' = true) := fun x hx => by simp at hx; rcases hx with rfl | rfl | rfl | rfl <;> rfl
      obtain ⟨i0, hi0⟩ : ∃ x, x = ti.kind := ⟨_, rfl⟩
      obtain ⟨i1, hi1⟩ : ∃ x, x = ti.text := ⟨_, rfl⟩
      obtain ⟨i2, hi2⟩ : ∃ x, x = ti.lo := ⟨_, rfl⟩
      obtain ⟨i3, hi3⟩ : ∃ x, x = ti.hi := ⟨_, rfl⟩
      rw [← hi0, ← hi1, ← hi2, ← hi3] at K2 HFI ONE
      clear hi0 hi1 hi2 hi3 hti ht ht2 hi
      go_upto_region 5 with (go_at_call 69; refine K2.mono ?_; rintro e w2 ⟨rfl, z2, x2⟩; obtain ⟨cc2, hw2, hc2⟩ := C2.out w2 x2.out; have HC2 := hid_ofP cc2; have OW := hid_ofP (OW2.out w2 x2.out); have c1' : w2.cell? ⟨cb, 1, none⟩ = some (.slice p m c) := cellP cc2 1; have f1' : w2.frozen? ⟨cb, 1, none⟩ = false := frzP cc2 1; clear cc2)
      have NEWB : Hid (((w2.alloc (.cells #[.int .i64 i0, .string i1, .int .i64 i2, .int .i64 i3] 63)).alloc (.cells #[.int .i64 i0, .string i1, .int .i64 i2, .int .i64 i3] 63)).heap[w2.heap.size + 1]? = some (.cells #[.int .i64 i0, .string i1, .int .i64 i2, .int .i64 i3] 63)) := by
        have h := heap_alloc_new (w2.alloc (.cells #[.int .i64 i0, .string i1, .int .i64 i2, .int .i64 i3] 63)) (.cells #[.int .i64 i0, .string i1, .int .i64 i2, .int .i64 i3] 63)
        rw [show (w2.alloc (.cells #[.int .i64 i0, .string i1, .int .i64 i2, .int .i64 i3] 63)).heap.size = w2.heap.size + 1 by simp] at h
        exact h
      go_wp2_with (at_builtin; refine wpList_append_lies _ rfl _ _ 43 rfl w.heap.size 63 it (.agg #[.int .i64 0, .string ⟨#[]⟩, .int .i64 0, .int .i64 0]) 4 40 Try.underlying43 HI.out.1 HI.out.2.1 HI.out.2.2.1 HI.out.2.2.2 rfl (by decide) _ _ _ rfl ((OW.out.alloc _).alloc _) ⟨w2.heap.size + 1, 0, none⟩ 1 1 [.int .i64 i0, .string i1, .int .i64 i2, .int .i64 i3] rfl rfl (World.news_of_block (cs := #[.int .i64 i0, .string i1, .int .i64 i2, .int .i64 i3]) (t := 63) (fr := (0, 0)) NEWB.out) ONE.out (by decide) MX.out BY.out (by simp; omega) (w2.heap.size + 1 + 1) (by simp) ?_; intro gg cap w5 hown hgrow hat hl; have c6 : w5.cell? ⟨cb, 1, none⟩ = some (.slice p m c) := (hgrow.cell_far ⟨cb, 1, none⟩ (by simp; omega) (Ne.symm RN.out)).trans ((World.cell?_alloc_past _ _ _ (by simp; omega)).trans ((World.cell?_alloc_past _ _ _ hc2).trans c1')); have f6 : w5.frozen? ⟨cb, 1, none⟩ = false := (hgrow.frozen_far ⟨cb, 1, none⟩ (by simp; omega) (Ne.symm RN.out)).trans ((World.frozen?_alloc_past _ _ _ (by simp; omega)).trans ((World.frozen?_alloc_past _ _ _ hc2).trans f1')))
      obtain ⟨F1, F2, F3, F4, F5⟩ := HFI.out w2 w5 _ gg cap z2.out x2.out hgrow hown
      have hL : (l ++ [ti]).length = m + 1 := by rw [List.length_append, ← HM.out]; rfl
      clear HFI hgrow hown hat
      go_roundg (gk - 1)
      case measure => omega
      case rel => exact ⟨kk + 1, l ++ [ti], _, _, by omega, hkk, by omega, F1, F2, by rw [hL]; exact F3, F4, by rw [hL]; exact F5, HRN, by have := HLk.out.1; omega, fun h => by simp at h, fun _ => by have := HLk.out.1; omega⟩
      --EA
    | false =>
      --SB
      have K3 := pItem_no HZk.out hi
      have HI9 := hid_ofP hi
      have HCF : Hid (∀ w2, Bx pb V w2 → w2.heap[cb]? = some (.cells #[.bool b, .slice p m c] 45) ∧ w2.heap[rb]? = some (.cells #[.bool false, .slice none 0 0] 45) ∧ cb < w2.heap.size ∧ rb < w2.heap.size) := fun w2 x2 => by
        have := HPB.out
        have := HRB.out
        have h1 := (x2.block cb (blkP_lt HCk.out) (by omega)).trans HCk.out
        have h2 := (x2.block rb (blkP_lt HQk.out) (by omega)).trans HQk.out
        exact ⟨h1, h2, blkP_lt h1, blkP_lt h2⟩
      have hne : ¬ cb = rb := by have := HRB.out; omega
      have hne2 : ¬ rb = cb := by have := HRB.out; omega
      go_upto_region 4 with (go_at_call 69; refine K3.mono ?_; rintro e w2 ⟨rfl, z2, x2⟩; obtain ⟨cc2, rr2, hc2, hr2⟩ := HCF.out w2 x2.out; have HC2 := hid_ofP cc2; have HR2 := hid_ofP rr2; have c0' : w2.cell? ⟨cb, 0, none⟩ = some (.bool b) := cellP cc2 0; have c1' : w2.cell? ⟨cb, 1, none⟩ = some (.slice p m c) := cellP cc2 1; have r0' : w2.cell? ⟨rb, 0, none⟩ = some (.bool false) := cellP rr2 0; have r1' : w2.cell? ⟨rb, 1, none⟩ = some (.slice none 0 0) := cellP rr2 1; have f0' : w2.frozen? ⟨rb, 0, none⟩ = false := frzP rr2 0; have f1' : w2.frozen? ⟨rb, 1, none⟩ = false := frzP rr2 1; clear cc2 rr2)
      go_region
      go_wp2
      have hr9 := HRB.out
      have hp9 := HPB.out
      have hV9 := HXk.out.size
      have h29 := x2.out.size
      obtain ⟨X, hX⟩ : ∃ X, X = (((w2.setCell ⟨rb, 0, none⟩ (.bool b)).setCell ⟨rb, 1, none⟩ (.slice p m c)).alloc (.cells #[.int .i64 0, .string ⟨#[]⟩, .int .i64 0, .int .i64 0] 63)).drew := ⟨_, rfl⟩
      have hBx : Below w.heap.size w2 X := by rw [hX]; exact ((((Below.refl w.heap.size w2).setCell (p := ⟨rb, 0, none⟩) (by show _ ≤ rb; omega) _).setCell (p := ⟨rb, 1, none⟩) (by show _ ≤ rb; omega) _).alloc (by simp [World.setCell]; omega) _).drew
      have hR5 : X.heap[rb]? = some (.cells #[.bool b, .slice p m c] 45) := by rw [hX]; exact ((bel1 _ _).block rb (by simp [World.setCell]; omega)).trans (set2 HR2.out _ _)
      have hOW : X.ownsRow w.heap.size 63 4 (.slice p m c) m (itsV l) := by
        have o2 := x2.out.row HOW.out (fun e => by have := (HOW.out.lt pb e).1; omega)
        have n2 : (Value.slice p m c).ownBlock ≠ some rb := row_noP HOW.out (by decide) HQk.out
        rw [hX]
        exact ((ownsRow_setCell_other (a := ⟨rb, 1, none⟩) (ownsRow_setCell_other (a := ⟨rb, 0, none⟩) o2 n2 _) n2 _).alloc _).drew
      have XX := HXk.out.trans x2.out
      have g0 := cellP hR5 0
      have g1 := cellP hR5 1
      have HPOST : Hid (Zs pb tp N tc ts kk X ∧ Bx pb w X ∧ CjR n ts S D sn nm AL A R w X b (.slice p m c) kk (decide (0 < m))) := by
        refine ⟨HZ.out.thenB z2.out XX (Nat.le_refl _) hBx, XX.thenB (Nat.le_refl _) hBx, fun ho => ?_, fun ho => ?_⟩
        · have hm0 : 0 < m := by simpa using ho
          have hl0 : l ≠ [] := fun e => by have := HM.out; rw [e] at this; simp at this; omega
          refine ⟨l, ?_, ?_, HI9.out⟩
          · have h9 := Reads.of (F := fun q => w.heap.size ≤ q ∧ q < X.heap.size) hOW (fun q e => hOW.lt q e)
            show Reads _ _ _ _ _
            rw [← HM.out]; exact h9
          · rw [← pmC_six hl0]; exact HRk.out
        · have hm0 : m = 0 := by have : ¬ 0 < m := by simpa using ho
                                 omega
          have hl0 : l = [] := List.length_eq_zero_iff.1 (by rw [← HM.out]; exact hm0)
          have hk9 := HLk.out.2.1 hl0
          rw [← HRk.out, hl0]
          refine rs_stop ?_ (fun t ht => pmC_none (itB_none HI9.out t ht) (fun e => H7.out e t (by rw [← hk9]; exact ht)))
          cases b with
          | false => exact Nat.succ_ne_zero 3
          | true => exact Nat.succ_ne_zero 4
      rw [← hX]
      clear hX
      refine bodyPost_ret (v := .tuple #[.agg #[.bool b, .slice p m c], .bool (decide (0 < m))]) ?_ rfl ?_
      · rw [results_cell_tmpP Try.results64]
        simp [go_sem, g0, g1]
      · refine ⟨b, p, m, c, kk, decide (0 < m), rfl, HPOST.out.1, HPOST.out.2.1, ⟨by have := HKK.out.1; have := HLk.out.1; omega, fun ho => ?_⟩, HPOST.out.2.2⟩
        have hm0 : 0 < m := by simpa using ho
        have hl0 : l ≠ [] := fun e => by have := HM.out; rw [e] at this; simp at this; omega
        have := HLk.out.2.2 hl0
        have := HKK.out.1
        omega
      --EB
end Go.Proofs.Ytdlpmefdeeokhaa
