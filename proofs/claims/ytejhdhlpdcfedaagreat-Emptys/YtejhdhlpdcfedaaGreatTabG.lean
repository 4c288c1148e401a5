import Derived.Test.YtejhdhlpdcfedaaGreatTabQ
/- The document's table: fillRule, walked. -/
namespace Go.Proofs.YtejhdhlpdcfedaaGreat
set_option linter.unusedVariables false
open Go.ChangeShapes Go.WideShapes Go.ChangeAt Go.RowKit

/-- What a rule's turn leaves in memory. -/
def FrEnd (F : Nat → Prop) (tb : Nat) (t : Tp) (hN hR : Nat → Int) (q : Nat) (r : Ru) (f : Nat → Nat) (lv : Nat) (H : SpM) (w : World) (e : Ending) (w' : World) : Prop :=
  ∃ ch hN' hR', e = .returned (.bool ch) ∧ Hid (Ts F tb t hN' hR' w') ∧ Hid (B2 t.nb t.rb w w') ∧ Hid (Qend t hN hR q r f lv H ch hN' hR')
set_option maxHeartbeats 2000000 in
set_option maxRecDepth 100000 in
theorem fillRule_any (t : Tp) (tb q : Nat) (r : Ru) (hN hR : Nat → Int) (w : World) {F : Nat → Prop} (hT : Ts F tb t hN hR w) (hs : Sep F tb t) (hF : ∀ i, F i → i < w.heap.size) (hw : Tw t) (hr : t.g.rules[q]? = some r) (hS : SoundR t hN hR) {f : Nat → Nat} {lv : Nat} {H : SpM} (hf : Str t.g.rules f) (hk : f r.head.toNat = lv) (hM : Jm3 (btsT t) t.m t.g.rules f lv H (MN t hN)) :
    Calls Tryz.prog 41 #[.pointer (some ⟨tb, 0, none⟩), .int .i64 (q : Int)] w fun e w' => FrEnd F tb t hN hR q r f lv H w e w' := by
  obtain ⟨p2, c2, hv2⟩ : ∃ p c, t.v2 = .slice p t.g.rules.length c := by obtain ⟨vs, ⟨p, c, e, _⟩, _⟩ := hT.1.2.1.2; exact ⟨p, c, e⟩
  have hg2 := hT.1.2.1.2
  rw [hv2] at hg2
  obtain ⟨g1, o1, u1, hp1, a0, a1, hcn⟩ := hg2.row hr
  subst hp1
  obtain ⟨p3, c3, hu3, hl0⟩ := IsCns.lngU hcn
  subst hu3
  have hq : q < t.g.rules.length := (List.getElem?_eq_some_iff.1 hr).1
  have t2 : w.cell? ⟨tb, 2, none⟩ = some t.v2 := Lib.cell_of_heap hT.1.1 2
  have t3 : w.cell? ⟨tb, 3, none⟩ = some (.string t.W) := Lib.cell_of_heap hT.1.1 3
  rw [hv2] at t2
  have hm32 := hw.m
  obtain ⟨m, hmm⟩ : ∃ m, m = t.W.size := ⟨_, rfl⟩
  have HMM : Hid (m = t.m) := hmm
  have hm2 : m ≤ 32 := by rw [hmm]; exact hm32
  obtain ⟨N, hNN⟩ : ∃ N, N = t.g.rules.length := ⟨_, rfl⟩
  rw [← hNN] at t2 hq
  have hqN : (q : Int) < (N : Int) := by omega
  obtain ⟨hd, cs⟩ := r
  have hhd := hw.h _ (List.mem_of_getElem? hr)
  simp only at hhd
  obtain ⟨x, rfl⟩ : ∃ x : Nat, hd = (x : Int) := ⟨hd.toNat, by omega⟩
  have hxn : x < t.g.names.length := by omega
  obtain ⟨C, hC⟩ : ∃ C, C = cs.length := ⟨_, rfl⟩
  have HCL : Hid (C = cs.length) := hC
  simp only at a0 a1 hcn hl0
  rw [← hC] at a1 hcn hl0
  have hC9 : C ≤ 9223372036854775807 := by unfold maxLen at hl0; omega
  obtain ⟨X, hX⟩ : ∃ X, X = w.alloc (.cells #[.int .i64 (x : Int), .slice p3 C c3] 40) := ⟨_, rfl⟩
  have hXb : Below w.heap.size w X := by rw [hX]; exact bel1 _ _
  have HXb : Hid (Below w.heap.size w X) := hXb
  have hX0 : X.heap[w.heap.size]? = some (.cells #[.int .i64 (x : Int), .slice p3 C c3] 40) := by rw [hX]; exact heap_alloc_new w _
  obtain ⟨nbx, hnb⟩ : ∃ nbx, nbx = w.heap.size := ⟨_, rfl⟩
  rw [← hnb] at hX0
  have hne1 : nbx ≠ t.nb := by have := hT.2.1.lt; omega
  have hne2 : nbx ≠ t.rb := by have := hT.2.2.lt; omega
  have HTX : Hid (Ts F tb t hN hR X) := hT.any hXb
  have HFX : Hid (∀ i, F i → i < X.heap.size) := fun i hi => Nat.lt_of_lt_of_le (hF i hi) hXb.size
  have HBX : Hid (∀ w', B2 t.nb t.rb X w' → TbIs w' F tb t ∧ w'.cell? ⟨nbx, 0, none⟩ = some (.int .i64 (x : Int)) ∧ w'.cell? ⟨nbx, 1, none⟩ = some (.slice p3 C c3) ∧ IsCns w' F (.slice p3 C c3) cs) := fun w' hb =>
    ⟨HTX.out.1.two hs HFX.out hb, hb.cell (Lib.cell_of_heap hX0 0) hne1 hne2, hb.cell (Lib.cell_of_heap hX0 1) hne1 hne2, (hcn.any hXb).keep ⟨hb.size, fun i hi => hb.block i (HFX.out i hi) (hs.f i hi).1 (hs.f i hi).2⟩ (fun _ h => h)⟩
  have HSP : Hid (Sep F tb t ∧ Tw t ∧ t.g.rules[q]? = some ⟨(x : Int), cs⟩ ∧ Str t.g.rules f ∧ f ((x : Int)).toNat = lv ∧ Jm3 (btsT t) t.m t.g.rules f lv H (MN t hN)) := ⟨hs, hw, hr, hf, hk, hM⟩
  have HP0 : Hid (P1 t hN hR q ⟨(x : Int), cs⟩ 0 false hR) := P1.begin hS
  have KR : Hid (∀ (h : Nat → Int) (c p i j : Nat) (d : Cn) (w' : World), Ts F tb t hN h w' → cs[c]? = some d → p ≤ d.seq.length → i ≤ j → j ≤ t.m → Calls Tryz.prog 66 #[.pointer (some ⟨tb, 0, none⟩), .agg #[.int .i64 (q : Int), .int .i64 (c : Int), .int .i64 (p : Int)], .int .i64 (i : Int), .int .i64 (j : Int)] w' fun e w'' => e = .returned (.bool (hasR t h q c p i j)) ∧ Hid (Below w'.heap.size w' w'')) := fun h c p i j d w' h1 h2 h3 h4 h5 => restT_any t tb q c p i j h w' h1.1 h1.2.2 ⟨_, d, hr, h2, h3⟩ hw.z h4 h5 hw.m
  have KD : Hid (∀ (h : Nat → Int) (c p i j : Nat) (d : Cn) (w' : World), Ts F tb t hN h w' → cs[c]? = some d → p ≤ d.seq.length → i ≤ j → j ≤ t.m → Calls Tryz.prog 67 #[.pointer (some ⟨tb, 0, none⟩), .agg #[.int .i64 (q : Int), .int .i64 (c : Int), .int .i64 (p : Int)], .int .i64 (i : Int), .int .i64 (j : Int)] w' fun e w'' => e = .returned (.bool (stepT t hN h q c p d.seq i j)) ∧ Hid (Below w'.heap.size w' w'')) := fun h c p i j d w' h1 h2 h3 h4 h5 => restD_any t tb q c p i j _ d hN h w' h1.1 h1.2.1 h1.2.2 hr h2 h3 (fun s hs => hw.s _ (List.mem_of_getElem? hr) d (List.mem_of_getElem? h2) s hs) hw.n hw.z h4 h5 hw.m
  have KP : Hid (∀ (c p : Nat) (d : Cn) (w' : World), TbIs w' F tb t → cs[c]? = some d → p ≤ d.seq.length → Calls Tryz.prog 68 #[.pointer (some ⟨tb, 0, none⟩), .agg #[.int .i64 (q : Int), .int .i64 (c : Int), .int .i64 (p : Int)]] w' fun e w'' => e = .returned (.int .i64 ((plc t q c p : Nat) : Int)) ∧ Hid (Below w'.heap.size w' w'')) := fun c p d w' h1 h2 h3 => place_any t tb q c p w' h1 ⟨_, d, hr, h2, h3⟩ (by
    have h9 := plc_lt (t := t) (q := q) (c := c) (p := p) ⟨_, d, hr, h2, h3⟩
    have h8 : plc t q c p = offR t.g.rules q + offC ((t.g.rules.getD q ⟨0, []⟩).conj) c + p := rfl
    have := hw.z
    omega)
  have KS : Hid (∀ (i j : Nat) (w' : World), TbIs w' F tb t → i ≤ j → j ≤ t.m → Calls Tryz.prog 43 #[.pointer (some ⟨tb, 0, none⟩), .int .i64 (i : Int), .int .i64 (j : Int)] w' fun e w'' => e = .returned (.int .i64 ((spn t i j : Nat) : Int)) ∧ w' = w'') := fun i j w' h1 h2 h3 => span_any t tb i j w' h1 h2 h3 hw.m
  have hsz : t.W.size = m := hmm.symm
  clear hT hs hF hw hr hS hf hk hM hg2 hcn hl0 hv2 hX0 hm32 hmm hNN hC hXb
  go_enter Tryz.func41, Tryz.ntmps41
  go_upto_region 4 with fail
  rw [← hX, ← hnb]
  clear hX hnb a0 a1 t2 t3 hsz
  go_wp2
  go_loopw [5, 8] (fun y z wr => ∃ (c : Nat) (ch : Bool) (h : Nat → Int), c ≤ C ∧ z = .int .i64 c ∧ y = .bool ch ∧ Hid (Ts F tb t hN h wr) ∧ Hid (B2 t.nb t.rb X wr) ∧ Hid (P1 t hN hR q ⟨(x : Int), cs⟩ c ch h)) (fun _ z _ => C - (intOf z).toNat)
  case atStart => exact ⟨0, false, hR, Nat.zero_le _, rfl, rfl, HTX, B2.refl _ _ _, HP0⟩
  case round =>
    obtain ⟨c, ch, h, hc, rfl, rfl, HT, HB, HP⟩ := hrel
    obtain ⟨-, x0, x1, hcn⟩ := HBX.out wr HB.out
    by_cases hlt : c < C
    · obtain ⟨d, hd1⟩ : ∃ d, cs[c]? = some d := ⟨_, List.getElem?_eq_getElem (by rw [← HCL.out]; exact hlt)⟩
      obtain ⟨g4, o4, u4, hp4, -, b1, hsy⟩ := hcn.row hd1
      subst hp4
      obtain ⟨p4, c4, hu4⟩ := IsSys.slc hsy
      subst hu4
      have HD1 : Hid (cs[c]? = some d) := hd1
      obtain ⟨S, hSe⟩ : ∃ S, S = d.seq.length := ⟨_, rfl⟩
      have HSL : Hid (S = d.seq.length) := hSe
      rw [← hSe] at b1
      have HP2 : Hid (P2 t hN hR q ⟨(x : Int), cs⟩ c d (S + 1) ch h) := by rw [hSe]; exact HP.out.two
      have hS9 : S ≤ 4000 := by
        have h1 := plc_lt (t := t) (q := q) (c := c) (p := S) ⟨_, d, HSP.out.2.2.1, hd1, by omega⟩
        have h2 : S ≤ plc t q c S := by unfold plc; omega
        have := HSP.out.2.1.z
        omega
      clear hcn hsy hd1 hSe HP
      go_wp2
      clear b1 x0 x1
      go_loopw [5, 9] (fun y z wr => ∃ (kk : Nat) (ch : Bool) (h : Nat → Int), kk ≤ S + 1 ∧ z = .int .i64 ((kk : Int) - 1) ∧ y = .bool ch ∧ Hid (Ts F tb t hN h wr) ∧ Hid (B2 t.nb t.rb X wr) ∧ Hid (P2 t hN hR q ⟨(x : Int), cs⟩ c d kk ch h)) (fun _ z _ => ((intOf z) + 1).toNat)
      case atStart => exact ⟨S + 1, ch, h, Nat.le_refl _, by congr 1; omega, rfl, HT, HB, HP2⟩
      case round =>
        clear HT HB HP2
        obtain ⟨kk, ch, h, hkk, rfl, rfl, HT, HB, HP⟩ := hrel
        cases kk with
        | zero =>
          have HP1 : Hid (P1 t hN hR q ⟨(x : Int), cs⟩ (c + 1) ch h) := HP.out.one HD1.out
          rw [show ((0 : Nat) : Int) - 1 = -1 from rfl]
          clear HP
          go_wp2
          go_roundw
          case rel => exact ⟨c + 1, ch, h, by omega, by go_num, rfl, HT, HB, HP1⟩
          case measure => simp [intOf]; omega
        | succ p =>
          rw [show ((p + 1 : Nat) : Int) - 1 = (p : Int) by omega]
          have HP3 : Hid (P3 t hN hR q ⟨(x : Int), cs⟩ c d p 0 0 ch h) := HP.out.three
          have hps : p ≤ S := by omega
          clear HP hkk
          obtain ⟨Y, hY⟩ : ∃ Y, Y = wr.alloc (.cells #[.int .i64 (q : Int), .int .i64 (c : Int), .int .i64 (p : Int)] 119) := ⟨_, rfl⟩
          have hYb : Below wr.heap.size wr Y := by rw [hY]; exact bel1 _ _
          have hY0 : Y.heap[wr.heap.size]? = some (.cells #[.int .i64 (q : Int), .int .i64 (c : Int), .int .i64 (p : Int)] 119) := by rw [hY]; exact heap_alloc_new wr _
          obtain ⟨pb, hpb⟩ : ∃ pb, pb = wr.heap.size := ⟨_, rfl⟩
          rw [← hpb] at hY0
          have hpn1 : pb ≠ t.nb := by have := HT.out.2.1.lt; omega
          have hpn2 : pb ≠ t.rb := by have := HT.out.2.2.lt; omega
          have HTY : Hid (Ts F tb t hN h Y) := HT.out.any hYb
          have HBY : Hid (B2 t.nb t.rb X Y) := HB.out.more hYb
          have HPB : Hid (∀ w', B2 t.nb t.rb Y w' → w'.cell? ⟨pb, 0, none⟩ = some (.int .i64 (q : Int)) ∧ w'.cell? ⟨pb, 1, none⟩ = some (.int .i64 (c : Int)) ∧ w'.cell? ⟨pb, 2, none⟩ = some (.int .i64 (p : Int))) := fun w' hb =>
            ⟨hb.cell (Lib.cell_of_heap hY0 0) hpn1 hpn2, hb.cell (Lib.cell_of_heap hY0 1) hpn1 hpn2, hb.cell (Lib.cell_of_heap hY0 2) hpn1 hpn2⟩
          clear hYb hY0
          go_upto_region 11 with fail
          rw [← hY, ← hpb]
          clear hY hpb HT HB
          go_wp2
          go_loopw [5, 11] (fun y z wr => ∃ (a : Nat) (ch : Bool) (h : Nat → Int), a ≤ m + 1 ∧ z = .int .i64 a ∧ y = .bool ch ∧ Hid (Ts F tb t hN h wr) ∧ Hid (B2 t.nb t.rb Y wr) ∧ Hid (P3 t hN hR q ⟨(x : Int), cs⟩ c d p a a ch h)) (fun _ z _ => m + 1 - (intOf z).toNat)
          case atStart => exact ⟨0, ch, h, Nat.zero_le _, rfl, rfl, HTY, B2.refl _ _ _, HP3⟩
          case round =>
            clear HTY HP3
            obtain ⟨a, ch, h, ha, rfl, rfl, HT, HB, HP⟩ := hrel
            by_cases hla : a ≤ m
            · have hla2 : (a : Int) ≤ (m : Int) := by omega
              go_wp2
              go_loopw [5, 12] (fun y z wr => ∃ (b : Nat) (ch : Bool) (h : Nat → Int), a ≤ b ∧ b ≤ m + 1 ∧ z = .int .i64 b ∧ y = .bool ch ∧ Hid (Ts F tb t hN h wr) ∧ Hid (B2 t.nb t.rb Y wr) ∧ Hid (P3 t hN hR q ⟨(x : Int), cs⟩ c d p a b ch h)) (fun _ z _ => m + 1 - (intOf z).toNat)
              case atStart => exact ⟨a, ch, h, Nat.le_refl _, ha, rfl, rfl, HT, HB, HP⟩
              case round =>
                clear HT HB HP
                obtain ⟨b, ch, h, hab, hb, rfl, rfl, HT, HB, HP⟩ := hrel
                obtain ⟨y0, y1, y2⟩ := HPB.out wr HB.out
                by_cases hlb : b ≤ m
                · have hlb2 : (b : Int) ≤ (m : Int) := by omega
                  have hbt : b ≤ t.m := by rw [← HMM.out]; exact hlb
                  have hpd : p ≤ d.seq.length := by rw [← HSL.out]; exact hps
                  have K1 := KR.out h c p a b d wr HT.out HD1.out hpd hab hbt
                  have hst := HP.out.step HSP.out.2.1 HSP.out.2.2.1 HD1.out hpd hab hbt
                  cases he : hasR t h q c p a b with
                  | true =>
                    rw [he] at K1
                    have HP' : Hid (P3 t hN hR q ⟨(x : Int), cs⟩ c d p a (b + 1) ch h) := HP.out.skip (fun _ => he)
                    clear HP he hst hbt hpd
                    go_wp2_with (go_at_call 66; refine K1.mono ?_; rintro e w3 ⟨rfl, b3⟩)
                    go_roundw
                    case rel => exact ⟨b + 1, ch, h, by omega, by omega, by go_num, rfl, HT.out.any b3.out, HB.out.more b3.out, HP'⟩
                    case measure => simp [intOf]; omega
                  | false =>
                    rw [he] at K1
                    have K2 : Hid (∀ w', Below wr.heap.size wr w' → Calls Tryz.prog 67 #[.pointer (some ⟨tb, 0, none⟩), .agg #[.int .i64 (q : Int), .int .i64 (c : Int), .int .i64 (p : Int)], .int .i64 (a : Int), .int .i64 (b : Int)] w' fun e w'' => e = .returned (.bool (rB t hN d p a b)) ∧ Hid (Below w'.heap.size w' w'')) := fun w' hb => by rw [← hst]; exact KD.out h c p a b d w' (HT.out.any hb) HD1.out hpd hab hbt
                    cases hrb : rB t hN d p a b with
                    | false =>
                      rw [hrb] at K2
                      have HP' : Hid (P3 t hN hR q ⟨(x : Int), cs⟩ c d p a (b + 1) ch h) := HP.out.skip (fun e => by rw [hrb] at e; cases e)
                      clear HP he hst hbt hpd hrb
                      go_wp2_with (first
                        | (go_at_call 66; refine K1.mono ?_; rintro e w3 ⟨rfl, b3⟩; obtain ⟨y0, y1, y2⟩ := HPB.out w3 (HB.out.more b3.out))
                        | (go_at_call 67; refine (K2.out _ b3.out).mono ?_; rintro e w4 ⟨rfl, b4⟩))
                      have B4 : Below wr.heap.size wr w4 := b3.out.trans (b4.out.mono b3.out.size)
                      go_roundw
                      case rel => exact ⟨b + 1, ch, h, by omega, by omega, by go_num, rfl, HT.out.any B4, HB.out.more B4, HP'⟩
                      case measure => simp [intOf]; omega
                    | true =>
                      rw [hrb] at K2
                      have HP' : Hid (P3 t hN hR q ⟨(x : Int), cs⟩ c d p a (b + 1) true (upd h (restIx t q c p a b))) := HP.out.put HSP.out.2.2.1 HD1.out hpd hab hbt hrb he
                      have hlt8 := restIx_lt (plc_lt (t := t) (q := q) (c := c) (p := p) ⟨_, d, HSP.out.2.2.1, HD1.out, hpd⟩) hab hbt
                      have hpl8 := plc_lt (t := t) (q := q) (c := c) (p := p) ⟨_, d, HSP.out.2.2.1, HD1.out, hpd⟩
                      have hsl8 := spn_lt (t := t) hab hbt
                      have hwd8 := wide_le HSP.out.2.1.m
                      have hz8 := HSP.out.2.1.z
                      have HPD : Hid (p ≤ d.seq.length ∧ b ≤ t.m) := ⟨hpd, hbt⟩
                      clear HP he hst hbt hpd hrb
                      go_upto_region 18 with (first
                        | (go_at_call 66; refine K1.mono ?_; rintro e w3 ⟨rfl, b3⟩; obtain ⟨y0, y1, y2⟩ := HPB.out w3 (HB.out.more b3.out))
                        | (go_at_call 67; refine (K2.out _ b3.out).mono ?_; rintro e V ⟨rfl, b4⟩))
                      have BV : Below wr.heap.size wr V := b3.out.trans (b4.out.mono b3.out.size)
                      have HTV : Hid (Ts F tb t hN h V) := HT.out.any BV
                      have HBV : Hid (B2 t.nb t.rb Y V) := HB.out.more BV
                      obtain ⟨ix, hix⟩ : ∃ ix, ix = restIx t q c p a b := ⟨_, rfl⟩
                      obtain ⟨sp, hsp⟩ : ∃ sp, sp = spn t a b := ⟨_, rfl⟩
                      obtain ⟨pl, hpe⟩ : ∃ pl, pl = plc t q c p := ⟨_, rfl⟩
                      obtain ⟨wd, hwe⟩ : ∃ wd, wd = t.wide := ⟨_, rfl⟩
                      obtain ⟨rn, hrn⟩ : ∃ rn, rn = t.rn := ⟨_, rfl⟩
                      obtain ⟨rb, hrbe⟩ : ∃ rb, rb = t.rb := ⟨_, rfl⟩
                      have hee : ix = pl * wd + sp := by rw [hix, hwe, hsp, hpe]; rfl
                      have KS1 : Hid (∀ w', B2 t.nb t.rb V w' → Calls Tryz.prog 43 #[.pointer (some ⟨tb, 0, none⟩), .int .i64 (a : Int), .int .i64 (b : Int)] w' fun e w'' => e = .returned (.int .i64 (sp : Int)) ∧ w' = w'') := fun w' hb => by rw [hsp]; exact KS.out a b w' (HTV.out.1.two HSP.out.1 (fun i hi => Nat.lt_of_lt_of_le (HFX.out i hi) (Nat.le_trans HBY.out.size HBV.out.size)) hb) hab HPD.out.2
                      have KP1 : Hid (∀ w', B2 t.nb t.rb V w' → Calls Tryz.prog 68 #[.pointer (some ⟨tb, 0, none⟩), .agg #[.int .i64 (q : Int), .int .i64 (c : Int), .int .i64 (p : Int)]] w' fun e w'' => e = .returned (.int .i64 (pl : Int)) ∧ Hid (Below w'.heap.size w' w'')) := fun w' hb => by rw [hpe]; exact KP.out c p d w' (HTV.out.1.two HSP.out.1 (fun i hi => Nat.lt_of_lt_of_le (HFX.out i hi) (Nat.le_trans HBY.out.size HBV.out.size)) hb) HD1.out HPD.out.1
                      have HSS : Hid (∀ w', B2 t.nb t.rb V w' → B2 t.nb t.rb V w' ∧ w'.cell? ⟨pb, 0, none⟩ = some (.int .i64 (q : Int)) ∧ w'.cell? ⟨pb, 1, none⟩ = some (.int .i64 (c : Int)) ∧ w'.cell? ⟨pb, 2, none⟩ = some (.int .i64 (p : Int)) ∧ w'.cell? ⟨tb, 7, none⟩ = some (.slice (some ⟨rb, 0, none⟩) rn rn) ∧ w'.cell? ⟨tb, 4, none⟩ = some (.int .i64 (wd : Int))) := fun w' hb => by
                        obtain ⟨k0, k1, k2⟩ := HPB.out w' (HBV.out.trans hb)
                        refine ⟨hb, k0, k1, k2, ?_, ?_⟩
                        · rw [hrbe, hrn]; exact hb.cell (Lib.cell_of_heap HTV.out.1.1 7) HSP.out.1.a HSP.out.1.b
                        · rw [hwe]; exact hb.cell (Lib.cell_of_heap HTV.out.1.1 4) HSP.out.1.a HSP.out.1.b
                      have HRB : Hid (∀ w', Below V.heap.size V w' → ∃ z, w'.cell? ⟨rb, ix, none⟩ = some (.int .i64 z) ∧ w'.frozen? ⟨rb, ix, none⟩ = false) := fun w' hb => by
                        have h9 := HTV.out.2.2.keep hb
                        rw [hrbe, hix]; exact ⟨_, h9.cell hlt8, h9.frozen _⟩
                      have HFI : Hid (∀ w', Below V.heap.size V w' → Ts F tb t hN (upd h (restIx t q c p a b)) (w'.setCell ⟨rb, ix, none⟩ (.int .i64 1)) ∧ B2 t.nb t.rb Y (w'.setCell ⟨rb, ix, none⟩ (.int .i64 1))) := fun w' hb => by
                        rw [hrbe, hix]; exact ⟨(HTV.out.any hb).putR HSP.out.1 _, (HBV.out.more hb).setY _ _⟩
                      rw [← hrbe] at KS1 KP1 HSS
                      rw [← hix, ← hrn] at hlt8
                      rw [← hsp, ← hwe] at hsl8
                      rw [← hwe] at hwd8
                      rw [← hpe] at hpl8
                      have hxw : pl * wd ≤ 4000 * 1089 := Nat.mul_le_mul (by omega) hwd8
                      obtain ⟨xw, hxe⟩ : ∃ xw, xw = pl * wd := ⟨_, rfl⟩
                      have hmul : (pl : Int) * (wd : Int) = (xw : Int) := by rw [hxe]; push_cast; rfl
                      rw [← hxe] at hxw hee
                      have hsum : (xw : Int) + (sp : Int) = (ix : Int) := by rw [hee]; push_cast; rfl
                      have hlt2 : (ix : Int) < (rn : Int) := by omega
                      have hw1 : IntKind.i64.wrap (xw : Int) = (xw : Int) := by rw [IntKind.wrap_i64]; omega
                      have hw2 : IntKind.i64.wrap (ix : Int) = (ix : Int) := by rw [IntKind.wrap_i64]; omega
                      clear K1 K2 b3 b4 BV HT HB hix hsp hpe hwe hrn hrbe hee hxe y0 y1 y2 hpl8 hz8
                      go_region_held3 (fun w' => B2 t.nb rb V w' ∧ w'.cell? ⟨pb, 0, none⟩ = some (.int .i64 (q : Int)) ∧ w'.cell? ⟨pb, 1, none⟩ = some (.int .i64 (c : Int)) ∧ w'.cell? ⟨pb, 2, none⟩ = some (.int .i64 (p : Int)) ∧ w'.cell? ⟨tb, 7, none⟩ = some (.slice (some ⟨rb, 0, none⟩) rn rn) ∧ w'.cell? ⟨tb, 4, none⟩ = some (.int .i64 (wd : Int)))
                        ((refine HSS.out _ ?_; (repeat' (first | with_reducible assumption | with_reducible exact B2.refl _ _ _ | with_reducible apply B2.drew | with_reducible apply B2.setY))))
                        ((first
                          | (go_at_call 43; refine (KS1.out _ (by repeat' (first | assumption | exact B2.refl _ _ _ | apply B2.drew))).mono ?_; rintro e w5 ⟨rfl, rfl⟩)
                          | (go_at_call 68; refine (KP1.out _ (by repeat' (first | assumption | exact B2.refl _ _ _ | apply B2.drew))).mono ?_; rintro e w7 ⟨rfl, b7⟩; have b8 : Below V.heap.size V w7 := Below.trans (b := V.drew) (Below.refl _ _).drew b7.out; have b9 : B2 t.nb rb V w7 := B2.of b8; obtain ⟨z7, k7, f7⟩ := HRB.out w7 b8)))
                      all_goals
                        obtain ⟨HT9, HB9⟩ := HFI.out _ b8
                        go_wp2
                        go_roundw
                        case rel => exact ⟨b + 1, true, _, by omega, by omega, by go_num, rfl, HT9, HB9, HP'⟩
                        case measure => simp [intOf]; omega
                · obtain rfl : b = m + 1 := by omega
                  have HP' : Hid (P3 t hN hR q ⟨(x : Int), cs⟩ c d p (a + 1) (a + 1) ch h) := HP.out.next (by rw [← HMM.out]; omega)
                  have n1 : ¬ ((m + 1 : Nat) : Int) ≤ (m : Int) := by omega
                  have n2 : ¬ ((m : Int) + 1) ≤ (m : Int) := by omega
                  clear HP y0 y1 y2
                  go_wp2
                  go_roundw
                  case rel => exact ⟨a + 1, ch, h, by omega, by go_num, rfl, HT, HB, HP'⟩
                  case measure => simp [intOf]; omega
            · obtain rfl : a = m + 1 := by omega
              have HP2 : Hid (P2 t hN hR q ⟨(x : Int), cs⟩ c d p ch h) := HP.out.back (by rw [← HMM.out]; omega)
              have HB2 : Hid (B2 t.nb t.rb X wr) := HBY.out.trans HB.out
              have n1 : ¬ ((m + 1 : Nat) : Int) ≤ (m : Int) := by omega
              have n2 : ¬ ((m : Int) + 1) ≤ (m : Int) := by omega
              clear HP
              go_wp2
              go_roundw
              case rel => exact ⟨p, ch, h, by omega, by go_num, rfl, HT, HB2, HP2⟩
              case measure => simp [intOf]
    · obtain rfl : c = C := by omega
      have HCQ : Hid (CompQ t hN h q ⟨(x : Int), cs⟩) := by
        have := HP.out
        rw [HCL.out] at this
        exact this.all
      have HSO : Hid (SoundR t hN h) := HP.out.1
      have HQ0 : Hid (Q1 t hN hR h q ⟨(x : Int), cs⟩ f lv H 0 0 ch hN) := Q1.begin HP.out.2.1 HSP.out.2.2.2.2.2
      have KH : Hid (∀ (hM : Nat → Int) (i j : Nat) (w' : World), Ts F tb t hM h w' → i ≤ j → j ≤ t.m → Calls Tryz.prog 16 #[.pointer (some ⟨tb, 0, none⟩), .int .i64 (x : Int), .int .i64 (i : Int), .int .i64 (j : Int)] w' fun e w'' => e = .returned (.bool (hasN t hM x i j)) ∧ Hid (Below w'.heap.size w' w'')) := fun hM i j w' h1 h2 h3 => (hasT_any t tb x i j hM w' h1.1 h1.2.1 hxn HSP.out.2.1.n h2 h3 HSP.out.2.1.m).mono fun e w'' ⟨e1, n, e2⟩ => ⟨e1, by rw [e2]; exact below_drewN (Below.refl _ _) n⟩
      have KO : Hid (∀ (hM : Nat → Int) (i j : Nat) (w' : World), Ts F tb t hM h w' → i ≤ j → j ≤ t.m → Calls Tryz.prog 69 #[.pointer (some ⟨tb, 0, none⟩), .int .i64 (q : Int), .int .i64 (i : Int), .int .i64 (j : Int)] w' fun e w'' => e = .returned (.bool (holB3 (btsT t) (MN t hN) ⟨(x : Int), cs⟩ i j)) ∧ Hid (Below w'.heap.size w' w'')) := fun hM i j w' h1 h2 h3 => by
        have := holdsT_any t tb q i j _ h w' h1.1 h1.2.2 HSP.out.2.2.1 HSP.out.2.1.z h2 h3 HSP.out.2.1.m
        rw [hol_eq HSO.out HSP.out.2.2.1 HCQ.out h2 h3] at this
        exact this
      have HXN : Hid (x < t.g.names.length) := hxn
      clear hcn hxn HP KR KD KP
      go_wp2
      clear x0 x1
      go_loopw [5, 13] (fun y z wr => ∃ (a : Nat) (ch : Bool) (hM : Nat → Int), a ≤ m + 1 ∧ z = .int .i64 a ∧ y = .bool ch ∧ Hid (Ts F tb t hM h wr) ∧ Hid (B2 t.nb t.rb X wr) ∧ Hid (Q1 t hN hR h q ⟨(x : Int), cs⟩ f lv H a a ch hM)) (fun _ z _ => m + 1 - (intOf z).toNat)
      case atStart => exact ⟨0, ch, hN, Nat.zero_le _, rfl, rfl, HT, HB, HQ0⟩
      case round =>
        clear HT HB HQ0
        obtain ⟨a, ch, hM, ha, rfl, rfl, HT, HB, HQ⟩ := hrel
        by_cases hla : a ≤ m
        · have hla2 : (a : Int) ≤ (m : Int) := by omega
          go_wp2
          go_loopw [5, 14] (fun y z wr => ∃ (b : Nat) (ch : Bool) (hM : Nat → Int), a ≤ b ∧ b ≤ m + 1 ∧ z = .int .i64 b ∧ y = .bool ch ∧ Hid (Ts F tb t hM h wr) ∧ Hid (B2 t.nb t.rb X wr) ∧ Hid (Q1 t hN hR h q ⟨(x : Int), cs⟩ f lv H a b ch hM)) (fun _ z _ => m + 1 - (intOf z).toNat)
          case atStart => exact ⟨a, ch, hM, Nat.le_refl _, ha, rfl, rfl, HT, HB, HQ⟩
          case round =>
            clear HT HB HQ
            obtain ⟨b, ch, hM, hab, hb, rfl, rfl, HT, HB, HQ⟩ := hrel
            obtain ⟨-, x0, -, -⟩ := HBX.out wr HB.out
            by_cases hlb : b ≤ m
            · have hlb2 : (b : Int) ≤ (m : Int) := by omega
              have hbt : b ≤ t.m := by rw [← HMM.out]; exact hlb
              have K1 := KH.out hM a b wr HT.out hab hbt
              cases he : hasN t hM x a b with
              | true =>
                rw [he] at K1
                have HQ' : Hid (Q1 t hN hR h q ⟨(x : Int), cs⟩ f lv H a (b + 1) ch hM) := HQ.out.skip (fun _ => by show MN t hM x a b = true; rw [MN_at HXN.out hab hbt]; exact he)
                clear HQ he hbt
                go_wp2_with (go_at_call 16; refine K1.mono ?_; rintro e w3 ⟨rfl, b3⟩)
                go_roundw
                case rel => exact ⟨b + 1, ch, hM, by omega, by omega, by go_num, rfl, HT.out.any b3.out, HB.out.more b3.out, HQ'⟩
                case measure => simp [intOf]; omega
              | false =>
                rw [he] at K1
                have K2 : Hid (∀ w', Below wr.heap.size wr w' → Calls Tryz.prog 69 #[.pointer (some ⟨tb, 0, none⟩), .int .i64 (q : Int), .int .i64 (a : Int), .int .i64 (b : Int)] w' fun e w'' => e = .returned (.bool (holB3 (btsT t) (MN t hN) ⟨(x : Int), cs⟩ a b)) ∧ Hid (Below w'.heap.size w' w'')) := fun w' hb => KO.out hM a b w' (HT.out.any hb) hab hbt
                cases hrb : holB3 (btsT t) (MN t hN) ⟨(x : Int), cs⟩ a b with
                | false =>
                  rw [hrb] at K2
                  have HQ' : Hid (Q1 t hN hR h q ⟨(x : Int), cs⟩ f lv H a (b + 1) ch hM) := HQ.out.skip (fun e => by rw [hrb] at e; cases e)
                  clear HQ he hbt hrb
                  go_wp2_with (first
                    | (go_at_call 16; refine K1.mono ?_; rintro e w3 ⟨rfl, b3⟩)
                    | (go_at_call 69; refine (K2.out _ b3.out).mono ?_; rintro e w4 ⟨rfl, b4⟩))
                  have B4 : Below wr.heap.size wr w4 := b3.out.trans (b4.out.mono b3.out.size)
                  go_roundw
                  case rel => exact ⟨b + 1, ch, hM, by omega, by omega, by go_num, rfl, HT.out.any B4, HB.out.more B4, HQ'⟩
                  case measure => simp [intOf]; omega
                | true =>
                  rw [hrb] at K2
                  have HQ' : Hid (Q1 t hN hR h q ⟨(x : Int), cs⟩ f lv H a (b + 1) true (upd hM (nameIx t x a b))) := HQ.out.put HSP.out.2.1 HSP.out.2.2.2.1 HSP.out.2.2.1 HSP.out.2.2.2.2.1 HSP.out.2.2.2.2.2 hab hbt hrb he
                  have hlt8 := nameIx_lt HXN.out hab hbt
                  have hsl8 := spn_lt (t := t) hab hbt
                  have hwd8 := wide_le HSP.out.2.1.m
                  have hx64 : x ≤ 64 := by have := HSP.out.2.1.n; have := HXN.out; omega
                  have HBT : Hid (b ≤ t.m) := hbt
                  clear HQ he hbt hrb
                  go_upto_region 27 with (first
                    | (go_at_call 16; refine K1.mono ?_; rintro e w3 ⟨rfl, b3⟩)
                    | (go_at_call 69; refine (K2.out _ b3.out).mono ?_; rintro e V ⟨rfl, b4⟩))
                  have BV : Below wr.heap.size wr V := b3.out.trans (b4.out.mono b3.out.size)
                  have HTV : Hid (Ts F tb t hM h V) := HT.out.any BV
                  have HBV : Hid (B2 t.nb t.rb X V) := HB.out.more BV
                  obtain ⟨ix, hix⟩ : ∃ ix, ix = nameIx t x a b := ⟨_, rfl⟩
                  obtain ⟨sp, hsp⟩ : ∃ sp, sp = spn t a b := ⟨_, rfl⟩
                  obtain ⟨wd, hwe⟩ : ∃ wd, wd = t.wide := ⟨_, rfl⟩
                  obtain ⟨rn, hrn⟩ : ∃ rn, rn = t.nn := ⟨_, rfl⟩
                  obtain ⟨rb, hrbe⟩ : ∃ rb, rb = t.nb := ⟨_, rfl⟩
                  have hee : ix = x * wd + sp := by rw [hix, hwe, hsp]; rfl
                  have KS1 : Hid (∀ w', B2 t.nb t.rb V w' → Calls Tryz.prog 43 #[.pointer (some ⟨tb, 0, none⟩), .int .i64 (a : Int), .int .i64 (b : Int)] w' fun e w'' => e = .returned (.int .i64 (sp : Int)) ∧ w' = w'') := fun w' hb => by rw [hsp]; exact KS.out a b w' (HTV.out.1.two HSP.out.1 (fun i hi => Nat.lt_of_lt_of_le (HFX.out i hi) HBV.out.size) hb) hab HBT.out
                  have HSS : Hid (∀ w', B2 t.nb t.rb V w' → B2 t.nb t.rb V w' ∧ w'.cell? ⟨nbx, 0, none⟩ = some (.int .i64 (x : Int)) ∧ w'.cell? ⟨tb, 5, none⟩ = some (.slice (some ⟨rb, 0, none⟩) rn rn) ∧ w'.cell? ⟨tb, 4, none⟩ = some (.int .i64 (wd : Int))) := fun w' hb => by
                    obtain ⟨-, k0, -, -⟩ := HBX.out w' (HBV.out.trans hb)
                    refine ⟨hb, k0, ?_, ?_⟩
                    · rw [hrbe, hrn]; exact hb.cell (Lib.cell_of_heap HTV.out.1.1 5) HSP.out.1.a HSP.out.1.b
                    · rw [hwe]; exact hb.cell (Lib.cell_of_heap HTV.out.1.1 4) HSP.out.1.a HSP.out.1.b
                  have k7 : V.drew.cell? ⟨rb, ix, none⟩ = some (.int .i64 (hM ix)) := by
                    have h9 := HTV.out.2.1.keep (Below.refl _ _).drew
                    rw [hrbe, hix]; exact h9.cell hlt8
                  have f7 : V.drew.frozen? ⟨rb, ix, none⟩ = false := by
                    have h9 := HTV.out.2.1.keep (Below.refl _ _).drew
                    rw [hrbe, hix]; exact h9.frozen _
                  have HFI : Hid (∀ w', Below V.heap.size V w' → Ts F tb t (upd hM (nameIx t x a b)) h (w'.setCell ⟨rb, ix, none⟩ (.int .i64 1)) ∧ B2 t.nb t.rb X (w'.setCell ⟨rb, ix, none⟩ (.int .i64 1))) := fun w' hb => by
                    rw [hrbe, hix]; exact ⟨(HTV.out.any hb).putN HSP.out.1 _, (HBV.out.more hb).setX _ _⟩
                  rw [← hrbe] at KS1 HSS
                  rw [← hix, ← hrn] at hlt8
                  rw [← hsp, ← hwe] at hsl8
                  rw [← hwe] at hwd8
                  have hxw : x * wd ≤ 4000 * 1089 := Nat.mul_le_mul (by omega) hwd8
                  obtain ⟨xw, hxe⟩ : ∃ xw, xw = x * wd := ⟨_, rfl⟩
                  have hmul : (x : Int) * (wd : Int) = (xw : Int) := by rw [hxe]; push_cast; rfl
                  rw [← hxe] at hxw hee
                  have hsum : (xw : Int) + (sp : Int) = (ix : Int) := by rw [hee]; push_cast; rfl
                  have hlt2 : (ix : Int) < (rn : Int) := by omega
                  have hw1 : IntKind.i64.wrap (xw : Int) = (xw : Int) := by rw [IntKind.wrap_i64]; omega
                  have hw2 : IntKind.i64.wrap (ix : Int) = (ix : Int) := by rw [IntKind.wrap_i64]; omega
                  generalize hM ix = z7 at k7
                  clear K1 K2 b3 b4 BV HT HB hix hsp hwe hrn hrbe hee hxe x0
                  go_region_held3 (fun w' => B2 rb t.rb V w' ∧ w'.cell? ⟨nbx, 0, none⟩ = some (.int .i64 (x : Int)) ∧ w'.cell? ⟨tb, 5, none⟩ = some (.slice (some ⟨rb, 0, none⟩) rn rn) ∧ w'.cell? ⟨tb, 4, none⟩ = some (.int .i64 (wd : Int)))
                    ((refine HSS.out _ ?_; (repeat' (first | with_reducible assumption | with_reducible exact B2.refl _ _ _ | with_reducible apply B2.drew | with_reducible apply B2.setX))))
                    ((go_at_call 43; refine (KS1.out _ (by repeat' (first | assumption | exact B2.refl _ _ _ | apply B2.drew))).mono ?_; rintro e w5 ⟨rfl, rfl⟩))
                  all_goals
                    obtain ⟨HT9, HB9⟩ := HFI.out _ (Below.refl _ _).drew
                    go_wp2
                    go_roundw
                    case rel => exact ⟨b + 1, true, _, by omega, by omega, by go_num, rfl, HT9, HB9, HQ'⟩
                    case measure => simp [intOf]; omega
            · obtain rfl : b = m + 1 := by omega
              have HQ' : Hid (Q1 t hN hR h q ⟨(x : Int), cs⟩ f lv H (a + 1) (a + 1) ch hM) := HQ.out.next (by rw [← HMM.out]; omega)
              have n1 : ¬ ((m + 1 : Nat) : Int) ≤ (m : Int) := by omega
              have n2 : ¬ ((m : Int) + 1) ≤ (m : Int) := by omega
              clear HQ x0
              go_wp2
              go_roundw
              case rel => exact ⟨a + 1, ch, hM, by omega, by go_num, rfl, HT, HB, HQ'⟩
              case measure => simp [intOf]; omega
        · obtain rfl : a = m + 1 := by omega
          have HQE : Hid (Qend t hN hR q ⟨(x : Int), cs⟩ f lv H ch hM h) := HQ.out.fin (by rw [← HMM.out]; omega) HSO.out HCQ.out
          have n1 : ¬ ((m + 1 : Nat) : Int) ≤ (m : Int) := by omega
          have n2 : ¬ ((m : Int) + 1) ≤ (m : Int) := by omega
          clear HQ
          go_wp2
          go_ret
          exact ⟨ch, hM, h, rfl, HT, (B2.of HXb.out).trans HB.out, HQE⟩
end Go.Proofs.YtejhdhlpdcfedaaGreat
/- The document's table: fill, walked. -/
namespace Go.Proofs.YtejhdhlpdcfedaaGreat
set_option linter.unusedVariables false
open Go.ChangeShapes Go.WideShapes Go.ChangeAt Go.RowKit

/-- A level while it is filled. -/
structure FS (t : Tp) (f : Nat → Nat) (k : Nat) (H : SpM) (hN hR : Nat → Int) : Prop where
  so : SoundR t hN hR
  jm : Jm3 (btsT t) t.m t.g.rules f k H (MN t hN)
  lo : LowC t f k H hR
/-- The rules up to one are shut. -/
def ShutTo (t : Tp) (f : Nat → Nat) (k : Nat) (hN hR : Nat → Int) (i : Nat) : Prop := ∀ q r, q < i → t.g.rules[q]? = some r → f r.head.toNat = k → ShutQ t hN hR q r
/-- All levels below one are filled. -/
structure FL (t : Tp) (f : Nat → Nat) (k : Nat) (hN hR : Nat → Int) : Prop where
  so : SoundR t hN hR
  jn : Jn3 (btsT t) t.m t.g.rules f k (MN t hN)
  lo : LowC t f k (MN t hN) hR
theorem FL.fs {t : Tp} {f : Nat → Nat} {k : Nat} {hN hR : Nat → Int} (h : FL t f k hN hR) : FS t f k (MN t hN) hN hR := ⟨h.so, h.jn.mid, h.lo⟩
theorem FS.fin {t : Tp} {f : Nat → Nat} {k : Nat} {hN0 hN hR : Nat → Int} (hf : Str t.g.rules f) (h0 : Jn3 (btsT t) t.m t.g.rules f k (MN t hN0)) (h : FS t f k (MN t hN0) hN hR) (hs : ShutTo t f k hN hR t.g.rules.length) : FL t f (k + 1) hN hR := by
  obtain ⟨a, b⟩ := level_done hf h0 h.lo h.jm (fun q r hr hk => hs q r (List.getElem?_eq_some_iff.1 hr).1 hr hk)
  exact ⟨h.so, a, b⟩
theorem FS.turn {t : Tp} {f : Nat → Nat} {k : Nat} {H : SpM} {hN hR hN' hR' : Nat → Int} {q : Nat} {r : Ru} {ch : Bool} (h : FS t f k H hN hR) (e : Qend t hN hR q r f k H ch hN' hR') : FS t f k H hN' hR' := ⟨e.so, e.jm, h.lo.mono e.fl.2.2.2⟩
set_option maxHeartbeats 2000000 in
set_option maxRecDepth 100000 in
theorem fill_any (t : Tp) (tb : Nat) (hN hR : Nat → Int) (w : World) {F : Nat → Prop} (hT : Ts F tb t hN hR w) (hs : Sep F tb t) (hF : ∀ i, F i → i < w.heap.size) (hw : Tw t) {f : Nat → Nat} {lv : Nat} (hf : Str t.g.rules f) (hL : FL t f lv hN hR)
    (lg lo lc : Nat) (hlev : ∀ x, x < t.g.names.length → w.cell? ⟨lg, lo + x, none⟩ = some (.int .i64 (f x : Int))) (hl1 : lg ≠ t.nb) (hl2 : lg ≠ t.rb) (hr256 : t.g.rules.length ≤ 256) :
    Calls Tryz.prog 25 #[.pointer (some ⟨tb, 0, none⟩), .slice (some ⟨lg, lo, none⟩) t.g.names.length lc, .int .i64 (lv : Int)] w fun e w' => ∃ hN' hR', e = .returned (.tuple #[]) ∧ Hid (Ts F tb t hN' hR' w') ∧ Hid (B2 t.nb t.rb w w') ∧ Hid (FL t f (lv + 1) hN' hR') := by
  obtain ⟨p2, c2, hv2⟩ : ∃ p c, t.v2 = .slice p t.g.rules.length c := by obtain ⟨vs, ⟨p, c, e, _⟩, _⟩ := hT.1.2.1.2; exact ⟨p, c, e⟩
  obtain ⟨n, hnn⟩ : ∃ n, n = t.g.names.length := ⟨_, rfl⟩
  obtain ⟨N, hNN⟩ : ∃ N, N = t.g.rules.length := ⟨_, rfl⟩
  have HNN : Hid (N = t.g.rules.length) := hNN
  rw [← hNN] at hv2 hr256
  rw [← hnn] at hlev ⊢
  have HT2 : Hid (∀ w', B2 t.nb t.rb w w' → w'.cell? ⟨tb, 2, none⟩ = some (.slice p2 N c2)) := fun w' hb => by
    rw [← hv2]; exact hb.cell (Lib.cell_of_heap hT.1.1 2) hs.a hs.b
  have HRW : Hid (∀ (i : Nat) (w' : World), i < N → B2 t.nb t.rb w w' → ∃ (r : Ru) (g1 o1 x : Nat), t.g.rules[i]? = some r ∧ p2 = some ⟨g1, o1, none⟩ ∧ w'.cell? ⟨g1, o1 + i * 2, none⟩ = some (.int .i64 (x : Int)) ∧ x = r.head.toNat ∧ x < n) := fun i w' hi hb => by
    obtain ⟨r, hr⟩ : ∃ r, t.g.rules[i]? = some r := ⟨_, List.getElem?_eq_getElem (by omega)⟩
    have hg2 := (hT.1.two hs hF hb).2.1.2
    rw [hv2] at hg2
    obtain ⟨g1, o1, u1, hp1, a0, -, -⟩ := hg2.row hr
    have hh := hw.h r (List.mem_of_getElem? hr)
    obtain ⟨x, hx⟩ : ∃ x : Nat, r.head = (x : Int) := ⟨r.head.toNat, by omega⟩
    rw [hx] at a0
    exact ⟨r, g1, o1, x, hr, hp1, a0, by rw [hx]; rfl, by omega⟩
  have HLV : Hid (∀ (x : Nat) (w' : World), x < n → B2 t.nb t.rb w w' → w'.cell? ⟨lg, lo + x, none⟩ = some (.int .i64 (f x : Int))) := fun x w' hx hb => hb.cell (hlev x hx) hl1 hl2
  have KF : Hid (∀ (q : Nat) (r : Ru) (hN1 hR1 : Nat → Int) (w' : World), Ts F tb t hN1 hR1 w' → B2 t.nb t.rb w w' → t.g.rules[q]? = some r → f r.head.toNat = lv → FS t f lv (MN t hN) hN1 hR1 → Calls Tryz.prog 41 #[.pointer (some ⟨tb, 0, none⟩), .int .i64 (q : Int)] w' fun e w'' => FrEnd F tb t hN1 hR1 q r f lv (MN t hN) w' e w'') := fun q r hN1 hR1 w' h1 h2 h3 h4 h5 => fillRule_any t tb q r hN1 hR1 w' h1 hs (fun i hi => Nat.lt_of_lt_of_le (hF i hi) h2.size) hw h3 h5.so hf h4 h5.jm
  have HT0 : Hid (Ts F tb t hN hR w) := hT
  have HL0 : Hid (FL t f lv hN hR) := hL
  have HSF : Hid (Str t.g.rules f) := hf
  clear hT hs hF hw hf hL hlev hl1 hl2 hv2 hnn hNN
  obtain ⟨z0, hz0⟩ : ∃ z0, z0 = zc t.nn hN + zc t.rn hR + 1 := ⟨_, rfl⟩
  go_enter Tryz.func25, Tryz.ntmps25
  go_wp2
  go_loopg [6] z0 (fun gk y wr => ∃ (ch : Bool) (hN1 hR1 : Nat → Int), y = .bool ch ∧ zc t.nn hN1 + zc t.rn hR1 + (if ch then 1 else 0) ≤ gk ∧ Hid (Ts F tb t hN1 hR1 wr) ∧ Hid (B2 t.nb t.rb w wr) ∧ Hid (FS t f lv (MN t hN) hN1 hR1) ∧ Hid (ch = false → ShutTo t f lv hN1 hR1 N))
  case atStart => exact ⟨true, hN, hR, rfl, by rw [hz0]; simp, HT0, B2.refl _ _ _, HL0.out.fs, fun h => by cases h⟩
  case round =>
    obtain ⟨ch, hN1, hR1, rfl, hgk, HT, HB, HS, HC⟩ := hrel
    cases ch with
    | false =>
      have HFN : Hid (FL t f (lv + 1) hN1 hR1) := HS.out.fin HSF.out HL0.out.jn (by have := HC.out rfl; rw [HNN.out] at this; exact this)
      clear hgk HC HS hz0
      go_wp2
      go_end0
      exact ⟨hN1, hR1, rfl, HT, HB, HFN⟩
    | true =>
      have hgk2 : zc t.nn hN1 + zc t.rn hR1 + 1 ≤ gk := by simpa using hgk
      clear hgk HC hz0
      have HG : Hid (zc t.nn hN1 + zc t.rn hR1 + 1 ≤ gk) := hgk2
      clear hgk2
      go_wp2
      go_loopw [6, 7] (fun y z wr => ∃ (i : Nat) (ch : Bool) (hN2 hR2 : Nat → Int), i ≤ N ∧ z = .int .i64 i ∧ y = .bool ch ∧ Hid (Ts F tb t hN2 hR2 wr) ∧ Hid (B2 t.nb t.rb w wr) ∧ Hid (FS t f lv (MN t hN) hN2 hR2) ∧ Hid (Fl2 t hN1 hR1 hN2 hR2 ch) ∧ Hid (ch = false → ShutTo t f lv hN1 hR1 i)) (fun _ z _ => N - (intOf z).toNat)
      case atStart => exact ⟨0, false, hN1, hR1, Nat.zero_le _, rfl, rfl, HT, HB, HS, Fl2.refl _ _ _, fun _ q r h => by omega⟩
      case round =>
        clear HT HB HS
        obtain ⟨i, ch, hN2, hR2, hi, rfl, rfl, HT, HB, HS, HF2, HC⟩ := hrel
        have t2 := HT2.out wr HB.out
        by_cases hlt : i < N
        · obtain ⟨r, g1, o1, x, hr, hp, a0, hx, hxn⟩ := HRW.out i wr hlt HB.out
          subst hp
          have l0 := HLV.out x wr hxn HB.out
          have HR1 : Hid (t.g.rules[i]? = some r ∧ x = r.head.toNat) := ⟨hr, hx⟩
          have hxn2 : (x : Int) < (n : Int) := by omega
          clear hr hx
          by_cases hk : f x = lv
          · have e1 : ((f x : Int) == (lv : Int)) = true := by rw [beq_iff_eq]; omega
            have KK := KF.out i r hN2 hR2 wr HT.out HB.out HR1.out.1 (by rw [← HR1.out.2]; exact hk) HS.out
            clear hk
            obtain ⟨fx, hfx⟩ : ∃ fx, fx = f x := ⟨_, rfl⟩
            rw [← hfx] at l0 e1
            clear hfx
            have DONE : Hid (∀ (c2 : Bool) (hN3 hR3 : Nat → Int), Qend t hN2 hR2 i r f lv (MN t hN) c2 hN3 hR3 → FS t f lv (MN t hN) hN3 hR3 ∧ Fl2 t hN1 hR1 hN3 hR3 (ch || c2) ∧ ((ch || c2) = false → ShutTo t f lv hN1 hR1 (i + 1))) := fun c2 hN3 hR3 hq => by
              refine ⟨HS.out.turn hq, HF2.out.trans hq.fl, fun e => ?_⟩
              rw [Bool.or_eq_false_iff] at e
              obtain ⟨rfl, rfl⟩ := HF2.out.1 e.1
              intro q r' hqi hr' hk'
              by_cases hqe : q = i
              · subst hqe
                obtain rfl : r = r' := by have := HR1.out.1; rw [hr'] at this; injection this with this; exact this.symm
                exact hq.sh e.2
              · exact HC.out e.1 q r' (by omega) hr' hk'
            clear HS HC HF2
            go_upto_if 37 with (go_at_call 41; refine KK.mono ?_; rintro e w3 ⟨c2', hN3, hR3, rfl, HT3, HB3, HQ3⟩)
            obtain ⟨S3, F3, C3⟩ := DONE.out c2' hN3 hR3 HQ3.out
            have HB4 : Hid (B2 t.nb t.rb w w3) := HB.out.trans HB3.out
            have HS3 : Hid (FS t f lv (MN t hN) hN3 hR3) := S3
            clear HQ3 DONE t2 a0 l0 S3
            cases c2' with
            | true =>
              rw [Bool.or_true] at F3 C3
              have HF3 : Hid (Fl2 t hN1 hR1 hN3 hR3 true) := F3
              have HC3 : Hid (true = false → ShutTo t f lv hN1 hR1 (i + 1)) := C3
              clear F3 C3
              go_wp2
              go_roundw
              case rel => exact ⟨i + 1, true, hN3, hR3, by omega, by go_num, rfl, HT3, HB4, HS3, HF3, HC3⟩
              case measure => simp [intOf]; omega
            | false =>
              rw [Bool.or_false] at F3 C3
              have HF3 : Hid (Fl2 t hN1 hR1 hN3 hR3 ch) := F3
              have HC3 : Hid (ch = false → ShutTo t f lv hN1 hR1 (i + 1)) := C3
              clear F3 C3
              go_wp2
              go_roundw
              case rel => exact ⟨i + 1, ch, hN3, hR3, by omega, by go_num, rfl, HT3, HB4, HS3, HF3, HC3⟩
              case measure => simp [intOf]; omega
          · have e1 : ((f x : Int) == (lv : Int)) = false := by rw [beq_eq_false_iff_ne]; omega
            have HC3 : Hid (ch = false → ShutTo t f lv hN1 hR1 (i + 1)) := fun e q r' hqi hr' hk' => by
              by_cases hqe : q = i
              · subst hqe
                obtain rfl : r = r' := by have := HR1.out.1; rw [hr'] at this; injection this with this; exact this.symm
                rw [← HR1.out.2] at hk'
                exact absurd hk' hk
              · exact HC.out e q r' (by omega) hr' hk'
            clear hk HC
            obtain ⟨fx, hfx⟩ : ∃ fx, fx = f x := ⟨_, rfl⟩
            rw [← hfx] at l0 e1
            clear hfx
            go_wp2
            go_roundw
            case rel => exact ⟨i + 1, ch, hN2, hR2, by omega, by go_num, rfl, HT, HB, HS, HF2, HC3⟩
            case measure => simp [intOf]; omega
        · obtain rfl : i = N := by omega
          cases ch with
          | true =>
            have hlt3 := HF2.out.2.1 rfl
            have hgg := HG.out
            have HG2 : Hid (zc t.nn hN2 + zc t.rn hR2 + 1 ≤ gk - 1 ∧ 0 < gk) := by show _ ∧ _; omega
            clear hlt3 hgg
            go_wp2
            go_roundg (gk - 1)
            case measure => have := HG2.out.2; omega
            case rel => exact ⟨true, hN2, hR2, rfl, by simpa using HG2.out.1, HT, HB, HS, fun h => by cases h⟩
          | false =>
            obtain ⟨e1, e2⟩ := HF2.out.1 rfl
            have HC2 : Hid (ShutTo t f lv hN2 hR2 i) := by
              have := HC.out rfl
              rw [← e1, ← e2] at this; exact this
            have hgg := HG.out
            have HG2 : Hid (zc t.nn hN2 + zc t.rn hR2 ≤ gk - 1 ∧ 0 < gk) := by
              show _ ∧ _
              rw [e1, e2]; omega
            clear e1 e2 hgg HC
            go_wp2
            go_roundg (gk - 1)
            case measure => have := HG2.out.2; omega
            case rel => exact ⟨false, hN2, hR2, rfl, by simpa using HG2.out.1, HT, HB, HS, fun _ => HC2.out⟩
end Go.Proofs.YtejhdhlpdcfedaaGreat
