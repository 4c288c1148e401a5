import Derived.Test.YtfjejnkjlnkkhaaGreatDoorMeaAd
import Derived.ArgAppend
import Derived.Laws.OwnMore
import Derived.Deep.LoopGhost
/- grow of the program. -/
namespace Go.Proofs.YtfjejnkjlnkkhaaGreatDoor
set_option linter.unusedVariables false
set_option linter.unusedSimpArgs false
open Go.ChangeShapes Go.WideShapes Go.ChangeAt Go.RowKit

def numL (l : List Nat) : List Int := l.map fun (q : Nat) => (q : Int)
theorem numL_len (l : List Nat) : (numL l).length = l.length := by simp [numL]
theorem numL_at {l : List Nat} {k q : Nat} (h : l[k]? = some q) : (numL l)[k]? = some (q : Int) := by unfold numL; rw [List.getElem?_map, h]; rfl
theorem bit_orM (cw x : Nat) : (fun y => (cw ||| 2 ^ x).testBit y) = fun y => decide (y = x) || cw.testBit y := by
  funext y
  rw [Nat.testBit_or, Nat.testBit_two_pow, Bool.or_comm]
  congr 1
  rw [decide_eq_decide]; exact eq_comm
/-- What a grammar's rules are in. -/
structure GrOk (g : Gr) (f : Nat → Nat) : Prop where
  pl : PlIn g.rules
  nn : g.names.length ≤ 64
  nm : NmIn g.names.length g.rules
  hd : ∀ r, r ∈ g.rules → 0 ≤ r.head
  sy : ∀ r, r ∈ g.rules → SyIn g.names.length r
  st : Str g.rules f
set_option maxHeartbeats 4000000 in
set_option maxRecDepth 100000 in
theorem growM_any (F : Nat → Prop) (g : Gr) (W : ByteArray) (D : Md) (T : SpM) (w : World) (h : Wm F g W D w) (hF : Fm F D) (hH : HasAt w D.hb (allN g) T) (f : Nat → Nat) (hgo : GrOk g f) {G : Nat → Prop} (v : Value) (l : List Nat) (hl : IsInts w G v (numL l)) (hG : ∀ i, G i → i ≠ D.hb) (k : Nat) (hlr : ∀ q, q ∈ l → ∃ r, g.rules[q]? = some r ∧ f r.head.toNat = k) (i j : Nat) (hij : i ≤ j) (hj : j ≤ W.size) (hm : W.size ≤ 32) (Dd : Nat → Nat → Prop) (hD1 : ∀ a, i < a → a ≤ j → Dd a j) (hD2 : ∀ a c, Dd a c → ¬ (a ≤ i ∧ j ≤ c)) (H : SpM)
    (hgp : Gp (btsW W) W.size g.names.length g.rules f k Dd H T T i j (fun _ => false) (fun q => q ∈ l)) :
    Calls Tryz.prog 64 #[.pointer (some ⟨D.kb, 0, none⟩), v, .int .i64 (i : Int), .int .i64 (j : Int)] w fun e w' => ∃ (cw : Nat) (T' : SpM), e = .returned (.int .u64 (cw : Int)) ∧ cw < 18446744073709551616 ∧ Hid (HasAt w' D.hb (allN g) T') ∧ Hid (Gp (btsW W) W.size g.names.length g.rules f k Dd H T T' i j (fun x => cw.testBit x) (fun _ => False)) ∧ Hid (Bu D.hb w w') := by
  have HW : Hid (Wm F g W D w) := h
  have HF : Hid (Fm F D) := hF
  have HGO : Hid (GrOk g f) := hgo
  have HL : Hid (IsInts w G v (numL l)) := hl
  have HG : Hid (∀ i, G i → i ≠ D.hb) := hG
  have HLR : Hid (∀ q, q ∈ l → ∃ r, g.rules[q]? = some r ∧ f r.head.toNat = k) := hlr
  have HD1 : Hid (∀ a, i < a → a ≤ j → Dd a j) := hD1
  have HD2 : Hid (∀ a c, Dd a c → ¬ (a ≤ i ∧ j ≤ c)) := hD2
  have HH : Hid (HasAt w D.hb (allN g) T) := hH
  have HGP : Hid (Gp (btsW W) W.size g.names.length g.rules f k Dd H T T i j (fun x => (0 : Nat).testBit x) (fun q => q ∈ l.drop 0)) := by
    show Gp _ _ _ _ _ _ _ _ _ _ _ _ _ _
    rw [show (fun x => (0 : Nat).testBit x) = fun _ => false from funext fun x => Nat.zero_testBit x]; exact hgp
  obtain ⟨p, cp, rfl, hlm, -⟩ := Reads.num hl
  rw [numL_len] at HL hlm ⊢
  have hlm9 : l.length ≤ 9223372036854775807 := by unfold maxLen at hlm; omega
  obtain ⟨n, hn⟩ : ∃ n, n = l.length := ⟨_, rfl⟩
  have HN : Hid (n = l.length) := hn
  rw [← hn] at HL hlm9 ⊢
  clear h hF hgo hl hG hlr hD1 hD2 hH hgp hlm hn
  go_enter Tryz.func64, Tryz.ntmps64
  go_wp2
  go_loopw [9, 15] (fun z x wr => ∃ (m cw : Nat) (T' : SpM), m ≤ n ∧ x = .int .i64 (m : Int) ∧ z = .int .u64 (cw : Int) ∧ cw < 18446744073709551616 ∧ Hid (HasAt wr D.hb (allN g) T') ∧ Hid (Gp (btsW W) W.size g.names.length g.rules f k Dd H T T' i j (fun x => cw.testBit x) (fun q => q ∈ l.drop m)) ∧ Hid (Bu D.hb w wr)) (fun _ x _ => n - (intOf x).toNat)
  case atStart => exact ⟨0, 0, T, Nat.zero_le _, rfl, rfl, by omega, HH, HGP, Bu.refl _ _⟩
  case round =>
    obtain ⟨m, cw, T', hm1, rfl, rfl, hcw, HT, HP, HB⟩ := hrel
    clear HH HGP
    by_cases hlt : m < n
    · obtain ⟨q, hq⟩ : ∃ q, l[m]? = some q := ⟨_, List.getElem?_eq_getElem (by rw [← HN.out]; exact hlt)⟩
      have hlr : Reads wr (fun i => G i ∧ i < w.heap.size) (.slice p n cp) n (intsV (numL l)) := by
        have h1 : Reads w (fun i => G i ∧ i < w.heap.size) (.slice p n cp) n (intsV (numL l)) := by
          have := Reads.low HL.out (F' := fun i => G i ∧ i < w.heap.size) (fun i h1 h2 => ⟨h1, h2⟩)
          rw [numL_len, ← HN.out] at this; exact this
        exact h1.keep (HB.out.stay fun i hi => ⟨hi.2, HG.out i hi.1⟩) (fun _ h => h)
      obtain ⟨p9, c9, e9, -, hz9⟩ := Reads.num (l := numL l) (by unfold IsInts; rw [numL_len, ← HN.out]; exact hlr)
      simp only [Value.slice.injEq] at e9
      obtain ⟨e9, -, -⟩ := e9
      subst e9
      obtain ⟨g0, o0, hp0, -, hg0, c0⟩ := hz9 m _ (numL_at hq)
      subst hp0
      obtain ⟨r, hr, hrk⟩ := HLR.out q (List.mem_of_getElem? hq)
      have hmem := List.mem_of_getElem? hr
      have hWr := HW.out.bu HF.out HB.out
      obtain ⟨g1, o1, p1, c1, e1, a0, a1, -⟩ := hWr.rule hr
      have hlen := (List.getElem?_eq_some_iff.1 hr).1
      obtain ⟨x, hx⟩ : ∃ x : Nat, r.head = (x : Int) := ⟨r.head.toNat, by have := HGO.out.hd r hmem; omega⟩
      have hxn : r.head.toNat = x := by rw [hx]; rfl
      have hxN : x < g.names.length := by rw [← hxn]; exact (HGO.out.nm r hmem).1
      have hxA : x < allN g := by unfold allN; omega
      have hx64 : x < 64 := by have := HGO.out.nn; omega
      -- addRests
      have KA : Hid (Calls Tryz.prog 92 #[.pointer (some ⟨D.kb, 0, none⟩), .int .i64 (q : Int), .int .i64 (i : Int), .int .i64 (j : Int)] wr fun e w' => e = .returned (.tuple #[]) ∧ Hid (∃ T1, HasAt w' D.hb (allN g) T1 ∧ Ad (btsW W) W.size g.names.length g.rules f k Dd H T i j (fun x => cw.testBit x) (fun q => q ∈ l.drop m) q r r.conj.length 0 T1 ∧ Bu D.hb wr w')) :=
        addRests_any F g W D T' wr hWr HF.out HT.out hr (HGO.out.sy r hmem) i j hij hj hm HGO.out.pl HGO.out.nn _ (ad_z HGO.out.nm hr hrk hij hj (by omega) HD1.out) (Ad.begin HP.out)
      have HAF : Hid (∀ w1 T1, HasAt w1 D.hb (allN g) T1 → Ad (btsW W) W.size g.names.length g.rules f k Dd H T i j (fun x => cw.testBit x) (fun q => q ∈ l.drop m) q r r.conj.length 0 T1 → Bu D.hb wr w1 → ∃ b1 b2 : Bool,
          (∀ w', Below w1.heap.size w1 w' → Calls Tryz.prog 32 #[.pointer (some ⟨D.hb, x * 66, none⟩), .int .i64 (i : Int), .int .i64 (j : Int)] w' fun e w'' => e = .returned (.bool b1) ∧ w' = w'') ∧
          (∀ w', Below w1.heap.size w1 w' → Calls Tryz.prog 71 #[.pointer (some ⟨D.kb, 0, none⟩), .int .i64 (q : Int), .int .i64 (i : Int), .int .i64 (j : Int)] w' fun e w'' => e = .returned (.bool b2) ∧ Hid (Below w'.heap.size w' w'')) ∧
          ((b1 = true ∨ b2 = false) → Gp (btsW W) W.size g.names.length g.rules f k Dd H T T1 i j (fun x => cw.testBit x) (fun q => q ∈ l.drop (m + 1))) ∧
          (b1 = false → b2 = true → Gp (btsW W) W.size g.names.length g.rules f k Dd H T (putS3 T1 x i j) i j (fun y => (cw ||| 2 ^ x).testBit y) (fun q => q ∈ l.drop (m + 1)))) := fun w1 T1 h1 h2 h3 => by
        have hW1 := hWr.bu HF.out h3
        have hR : ∀ q', q' ∈ l.drop m → q' = q ∨ q' ∈ l.drop (m + 1) := fun q' hq' => by
          obtain ⟨hlt2, e2⟩ := List.getElem?_eq_some_iff.1 hq
          rw [List.drop_eq_getElem_cons hlt2, e2] at hq'
          exact List.mem_cons.1 hq'
        have heq := holM_eq h2.gp.sd hr (i := i) (j := j) h2.fin
        refine ⟨T1 x i j, holM g.names.length g.rules T1 q r i j, fun w' hb => hasSp_any x i j (h1.any hb) hxA (by omega) (by omega), fun w' hb => holdsM_any F g W D T1 w' (hW1.any HF.out hb) HF.out (h1.any hb) hr i j (by omega) (by omega) HGO.out.pl, fun hb => ?_, fun hb1 hb2 => ?_⟩
        · refine h2.gp.pass ⟨fun c p r' d g1 g2 g3 g4 => ?_, fun r' g1 g2 => ?_⟩ hR
          · rw [hr] at g1; injection g1 with g1; subst g1; exact h2.fin c p d g2 g3 g4
          · rw [hr] at g1; injection g1 with g1; subst g1
            rw [hxn]
            rcases hb with hb | hb
            · exact hb
            · rw [heq] at hb; rw [hb] at g2; cases g2
        · have := h2.gp.name HGO.out.st HGO.out.nm hr hrk hij hj HD2.out (by rw [hxn]; exact hb1) h2.fin (by rw [← heq]; exact hb2) hR
          rw [hxn] at this
          rw [bit_orM]; exact this
      have HK3 : Hid (∀ w', Bu D.hb wr w' → w'.cell? ⟨D.kb, 3, none⟩ = some (.slice (some ⟨g1, o1, none⟩) g.rules.length D.cr) ∧ w'.cell? ⟨g1, o1 + q * 2, none⟩ = some (.int .i64 (x : Int)) ∧ w'.cell? ⟨D.kb, 0, none⟩ = some (.pointer (some ⟨D.tb, 0, none⟩)) ∧ w'.cell? ⟨D.tb, 3, none⟩ = some (.slice (some ⟨D.hb, 0, none⟩) (allN g) (allN g))) := fun w' hb => by
        have hW' := hWr.bu HF.out hb
        have h3 := hW'.k3
        rw [e1] at h3
        obtain ⟨g1', o1', p1', c1', e1', a0', -, -⟩ := hW'.rule hr
        rw [e1] at e1'
        injection e1' with e1'
        injection e1' with e2 e3
        subst e2 e3
        rw [hx] at a0'
        exact ⟨h3, a0', hW'.k0, hW'.t3⟩
      have B1 : bits .or .u64 ((cw : Nat) : Int) (IntKind.u64.wrap (2 ^ x)) = ((cw ||| 2 ^ x : Nat) : Int) := bit_putM _ _ hcw hx64
      have hcw2 : cw ||| 2 ^ x < 18446744073709551616 := Nat.or_lt_two_pow (n := 64) hcw (Nat.pow_lt_pow_right (by omega) hx64)
      obtain ⟨rl, hrl⟩ : ∃ rl, rl = g.rules.length := ⟨_, rfl⟩
      obtain ⟨al, hal⟩ : ∃ al, al = allN g := ⟨_, rfl⟩
      have hxAl : x < al := by rw [hal]; exact hxA
      have hqr : q < rl := by rw [hrl]; exact hlen
      rw [← hrl, ← hal] at HK3
      have HAD : Hid (∀ w1 T1, HasAt w1 D.hb (allN g) T1 → Calls Tryz.prog 93 #[.pointer (some ⟨D.hb, x * 66, none⟩), .int .i64 (i : Int), .int .i64 (j : Int)] w1 fun e w'' => e = .returned (.tuple #[]) ∧ Hid (HasAt w'' D.hb (allN g) (putS3 T1 x i j)) ∧ Hid (Bu D.hb w1 w'')) := fun w1 T1 h1 => addSp_any x i j h1 hxA (by omega) (by omega)
      clear hq hlr hz9 hr hWr hrk a0 a1 hx hxn hxN hxA hrl hal hlen hmem e1
      go_upto_region 6 with (go_at_call 92; refine KA.out.mono ?_; rintro e w1 ⟨rfl, T1x⟩)
      obtain ⟨T1, t1, ad1, b1⟩ := T1x.out
      obtain ⟨v1, v2, KC, KH, GY, GN⟩ := HAF.out w1 T1 t1 ad1 b1
      have HT1 : Hid (HasAt w1 D.hb (allN g) T1) := t1
      have HB1 : Hid (Bu D.hb w w1) := HB.out.trans b1
      have KC2 : Hid (Calls Tryz.prog 32 #[.pointer (some ⟨D.hb, x * 66, none⟩), .int .i64 (i : Int), .int .i64 (j : Int)] w1 fun e w'' => e = .returned (.bool v1) ∧ w1 = w'') := KC w1 (Below.refl _ _)
      have KH2 : Hid (Calls Tryz.prog 71 #[.pointer (some ⟨D.kb, 0, none⟩), .int .i64 (q : Int), .int .i64 (i : Int), .int .i64 (j : Int)] w1 fun e w'' => e = .returned (.bool v2) ∧ Hid (Below w1.heap.size w1 w'')) := KH w1 (Below.refl _ _)
      have GY2 : Hid ((v1 = true ∨ v2 = false) → Gp (btsW W) W.size g.names.length g.rules f k Dd H T T1 i j (fun x => cw.testBit x) (fun q => q ∈ l.drop (m + 1))) := GY
      have GN2 : Hid (v1 = false → v2 = true → Gp (btsW W) W.size g.names.length g.rules f k Dd H T (putS3 T1 x i j) i j (fun y => (cw ||| 2 ^ x).testBit y) (fun q => q ∈ l.drop (m + 1))) := GN
      have HBr : Hid (Bu D.hb wr w1) := b1
      obtain ⟨q1, q2, q3, q4⟩ := HK3.out w1 b1
      clear T1x t1 ad1 b1 KC KH GY GN KA
      cases v1 with
      | true =>
        have FG : Hid _ := GY2.out (Or.inl rfl)
        clear GY2 GN2 KH2
        go_wp2_with (go_at_call 32; refine KC2.out.mono ?_; rintro e w2 ⟨rfl, rfl⟩)
        go_roundw
        case rel => exact ⟨m + 1, cw, T1, by omega, by go_num, rfl, hcw, HT1, FG, HB1⟩
        case measure => simp [intOf]; omega
      | false =>
        cases v2 with
        | false =>
          have FG : Hid _ := GY2.out (Or.inr rfl)
          clear GY2 GN2
          go_wp2_with (first
            | (go_at_call 32; refine KC2.out.mono ?_; rintro e w2 ⟨rfl, rfl⟩)
            | (go_at_call 71; refine KH2.out.mono ?_; rintro e w3 ⟨rfl, b3⟩; have HT3 : Hid (HasAt w3 D.hb (allN g) T1) := HT1.out.any b3.out; have HB3 : Hid (Bu D.hb w w3) := HB1.out.trans (Bu.of b3.out)))
          go_roundw
          case rel => exact ⟨m + 1, cw, T1, by omega, by go_num, rfl, hcw, HT3, FG, HB3⟩
          case measure => simp [intOf]; omega
        | true =>
          have FG : Hid _ := GN2.out rfl rfl
          clear GY2 GN2
          go_wp2_with (first
            | (go_at_call 32; refine KC2.out.mono ?_; rintro e w2 ⟨rfl, rfl⟩)
            | (go_at_call 71; refine KH2.out.mono ?_; rintro e w3 ⟨rfl, b3⟩; have HT3 : Hid (HasAt w3 D.hb (allN g) T1) := HT1.out.any b3.out; have HB3 : Hid (Bu D.hb w w3) := HB1.out.trans (Bu.of b3.out); obtain ⟨s1, s2, s3, s4⟩ := HK3.out w3 (HBr.out.trans (Bu.of b3.out)); have KA3 := HAD.out w3 T1 HT3.out; clear b3)
            | (go_at_call 93; refine KA3.mono ?_; rintro e w4 ⟨rfl, t4, b4⟩; have HB4 : Hid (Bu D.hb w w4) := HB3.out.trans b4.out))
          go_roundw
          case rel => exact ⟨m + 1, cw ||| 2 ^ x, _, by omega, by go_num, rfl, hcw2, t4, FG, HB4⟩
          case measure => simp [intOf]; omega
    · obtain rfl : m = n := by omega
      have HP2 : Hid (Gp (btsW W) W.size g.names.length g.rules f k Dd H T T' i j (fun x => cw.testBit x) (fun _ => False)) := by
        have := HP.out
        rw [HN.out, List.drop_length] at this
        have e : (fun q => q ∈ ([] : List Nat)) = fun _ => False := by funext q; simp
        rw [e] at this; exact this
      go_wp2
      go_ret
      exact ⟨cw, T', rfl, hcw, HT, HP2, HB⟩
end Go.Proofs.YtfjejnkjlnkkhaaGreatDoor
/- needing, rulesOf, slices.Max of the program. -/
namespace Go.Proofs.YtfjejnkjlnkkhaaGreatDoor
set_option linter.unusedVariables false
set_option linter.unusedSimpArgs false
open Go.ChangeShapes Go.WideShapes Go.ChangeAt Go.RowKit

theorem Tryz.infoIntM : (Tryz.prog.info? 3).map (fun i => (i.zero, i.size, i.bytes)) = some (some (.int .i64 0), 1, 8) := by kernel_rfl
/-- A number more in a row of one's own. -/
theorem app_intM (w : World) (base : Nat) (l : List Int) (po : Option Addr) (n co : Nat) (hn : n = l.length) (ho : w.ownsRow base 3 1 (.slice po n co) n (intsV l)) (hb : base ≤ w.heap.size) (h9 : n ≤ 1000000) (z : Int) :
    ∃ gg cap w2, (Builtin.append_ #[62, 62] 62 #[.slice po n co, .slice (some ⟨w.heap.size, 0, none⟩) 1 1]).run Tryz.prog (w.alloc (.cells #[.int .i64 z] 3)) = .ok (.slice (some ⟨gg, 0, none⟩) (n + 1) cap) w2 ∧
      w2.ownsRow base 3 1 (.slice (some ⟨gg, 0, none⟩) (n + 1) cap) (n + 1) (intsV (l ++ [z])) ∧ (w.alloc (.cells #[.int .i64 z] 3)).grownBy w2 (Value.slice po n co).ownBlock := by
  obtain ⟨i0, hi0, hz0, hz1, hz2⟩ := info_partsP Tryz.infoIntM
  obtain ⟨gg, cap, w2, hrun, hown, hgrow, hat, _⟩ := run_append_lies (P := Tryz.prog) (w.alloc (.cells #[.int .i64 z] 3)) 62 62 base 3 i0 _ 1 8 Tryz.underlying62 hi0 hz0 hz1 hz2 rfl (by omega) (.slice po n co) n (intsV l) (ho.alloc _) ⟨w.heap.size, 0, none⟩ 1 1 [.int .i64 z] rfl
    (World.news_of_block (cs := #[.int .i64 z]) (t := 3) (fr := (0, 0)) (heap_alloc_new w _)) (by intro u hu; simp at hu; subst hu; rfl) (by omega) (by unfold maxLen; omega) (by omega) (by simp; omega) (w.heap.size + 1) (by simp)
  refine ⟨gg, cap, w2, hrun, ?_, hgrow⟩
  have e : intsV (l ++ [z]) = intsV l ++ [.int .i64 z] := by simp [intsV]
  rw [e]; exact hown
set_option maxHeartbeats 4000000 in
set_option maxRecDepth 100000 in
theorem needing_any (F : Nat → Prop) (g : Gr) (W : ByteArray) (D : Md) (w : World) (h : Wm F g W D w) (hF : Fm F D) {G : Nat → Prop} (v : Value) (l : List Nat) (hl : IsInts w G v (numL l)) (h9 : l.length ≤ 256) (hlr : ∀ q, q ∈ l → ∃ r, g.rules[q]? = some r) (cw : Nat) (hcw : cw < 18446744073709551616) :
    Calls Tryz.prog 65 #[.pointer (some ⟨D.kb, 0, none⟩), v, .int .u64 (cw : Int)] w fun e w' => ∃ (v' : Value) (l' : List Nat), e = .returned v' ∧ l'.length ≤ l.length ∧ Hid (IsInts w' (fun i => w.heap.size ≤ i) v' (numL l')) ∧ Hid (∀ q, q ∈ l' → q ∈ l) ∧ Hid (∀ q, q ∈ l → ∀ r, g.rules[q]? = some r → (∃ c s, c ∈ r.conj ∧ s ∈ c.seq ∧ s.name ≠ -1 ∧ cw.testBit s.name.toNat = true) → q ∈ l') ∧ Hid (Below w.heap.size w w') := by
  have HW : Hid (Wm F g W D w) := h
  have HF : Hid (Fm F D) := hF
  have HL : Hid (IsInts w G v (numL l)) := hl
  have HLR : Hid (∀ q, q ∈ l → ∃ r, g.rules[q]? = some r) := hlr
  obtain ⟨p, cp, rfl, -, -⟩ := Reads.num hl
  rw [numL_len] at HL ⊢
  obtain ⟨n, hn⟩ : ∃ n, n = l.length := ⟨_, rfl⟩
  have HN : Hid (n = l.length) := hn
  rw [← hn] at HL h9 ⊢
  clear h hF hl hlr hn
  go_enter Tryz.func65, Tryz.ntmps65
  go_wp2
  go_loopw [7, 12] (fun o x wr => ∃ (m : Nat) (l' : List Nat), m ≤ n ∧ x = .int .i64 (m : Int) ∧ l'.length ≤ m ∧ Hid (wr.ownsRow w.heap.size 3 1 o l'.length (intsV (numL l'))) ∧ Hid (∀ q, q ∈ l' → q ∈ l) ∧ Hid (∀ q, q ∈ l.take m → ∀ r, g.rules[q]? = some r → (∃ c s, c ∈ r.conj ∧ s ∈ c.seq ∧ s.name ≠ -1 ∧ cw.testBit s.name.toNat = true) → q ∈ l') ∧ Hid (Below w.heap.size w wr)) (fun _ x _ => n - (intOf x).toNat)
  case atStart => exact ⟨0, [], Nat.zero_le _, rfl, Nat.zero_le _, World.ownsRow_nil _ _ _ _, (fun q hq => (by cases hq)), (fun q hq => (by simp at hq)), Below.refl _ _⟩
  case round =>
    obtain ⟨m, l', hm1, rfl, hlm, HO, HS, HC, HB⟩ := hrel
    by_cases hlt : m < n
    · obtain ⟨q, hq⟩ : ∃ q, l[m]? = some q := ⟨_, List.getElem?_eq_getElem (by rw [← HN.out]; exact hlt)⟩
      have hqm := List.mem_of_getElem? hq
      obtain ⟨p9, c9, e9, -, hz9⟩ := Reads.num (l := numL l) (by have := HL.out.any HB.out; exact this)
      rw [numL_len] at e9
      simp only [Value.slice.injEq] at e9
      obtain ⟨e9, -, -⟩ := e9
      subst e9
      obtain ⟨g0, o0, hp0, -, hg0, c0⟩ := hz9 m _ (numL_at hq)
      subst hp0
      obtain ⟨r, hr⟩ := HLR.out q hqm
      have hWr := HW.out.any HF.out HB.out
      have hnd := hWr.nd
      obtain ⟨g2, o2, z, e2, hg2, c2, hzz⟩ := hnd.at hr
      have k7 := hWr.k7
      rw [e2] at k7
      have hlen := (List.getElem?_eq_some_iff.1 hr).1
      have hand := u64_and_nat z cw hzz.1 hcw
      have htk : l.take (m + 1) = l.take m ++ [q] := by rw [List.take_add_one, hq]; rfl
      obtain ⟨rl, hrl⟩ : ∃ rl, rl = g.rules.length := ⟨_, rfl⟩
      rw [← hrl] at k7 hlen
      obtain ⟨po, co, hov⟩ := row_slice HO.out
      subst hov
      by_cases hne : z &&& cw = 0
      · have hz0 : ((z &&& cw : Nat) : Int) = 0 := by rw [hne]; rfl
        have HC2 : Hid (∀ q, q ∈ l.take (m + 1) → ∀ r, g.rules[q]? = some r → (∃ c s, c ∈ r.conj ∧ s ∈ c.seq ∧ s.name ≠ -1 ∧ cw.testBit s.name.toNat = true) → q ∈ l') := fun q' hq' r' hr' hx => by
          rw [htk] at hq'
          rcases List.mem_append.1 hq' with hq' | hq'
          · exact HC.out q' hq' r' hr' hx
          · obtain rfl : q' = q := by simpa using hq'
            rw [hr] at hr'; injection hr' with hr'; subst hr'
            obtain ⟨c, s, h1, h2, h3, h4⟩ := hx
            have h5 := hzz.2 c h1 s h2 h3
            have h6 := congrArg (fun y : Nat => y.testBit s.name.toNat) hne
            simp only [Nat.testBit_and, h5, h4, Nat.zero_testBit] at h6
            cases h6
        rw [hz0] at hand
        clear hq hz9 hr hWr hnd hzz hz0 hne htk hrl e2
        go_wp2
        go_roundw
        case rel => exact ⟨m + 1, l', by omega, by go_num, by omega, HO, HS, HC2, HB⟩
        case measure => simp [intOf]; omega
      · have hz0 : (((z &&& cw : Nat) : Int) == 0) = false := by rw [beq_eq_false_iff_ne]; intro e; exact hne (by exact_mod_cast e)
        have hz1 : ¬ ((z &&& cw : Nat) : Int) = 0 := fun e => hne (by exact_mod_cast e)
        obtain ⟨gg, cap, w2, hrun, hown, hgrow⟩ := app_intM wr w.heap.size (numL l') po l'.length co (numL_len l').symm HO.out HB.out.size (by omega) (q : Int)
        have HB2 : Hid (Below w.heap.size w w2) := (HB.out.alloc HB.out.size _).grown hgrow (by have := HB.out.size; simp; omega) (fun i hi => (HO.out.lt i hi).1)
        have e3 : numL l' ++ [(q : Int)] = numL (l' ++ [q]) := by simp [numL]
        rw [e3] at hown
        have HO2 : Hid (w2.ownsRow w.heap.size 3 1 (.slice (some ⟨gg, 0, none⟩) (l'.length + 1) cap) (l' ++ [q]).length (intsV (numL (l' ++ [q])))) := by
          show World.ownsRow _ _ _ _ _ _ _
          rw [List.length_append]; exact hown
        have HS2 : Hid (∀ q', q' ∈ l' ++ [q] → q' ∈ l) := fun q' hq' => by
          rcases List.mem_append.1 hq' with hq' | hq'
          · exact HS.out q' hq'
          · obtain rfl : q' = q := by simpa using hq'
            exact hqm
        have HC2 : Hid (∀ q', q' ∈ l.take (m + 1) → ∀ r, g.rules[q']? = some r → (∃ c s, c ∈ r.conj ∧ s ∈ c.seq ∧ s.name ≠ -1 ∧ cw.testBit s.name.toNat = true) → q' ∈ l' ++ [q]) := fun q' hq' r' hr' hx => by
          rw [htk] at hq'
          rcases List.mem_append.1 hq' with hq' | hq'
          · exact List.mem_append_left _ (HC.out q' hq' r' hr' hx)
          · exact List.mem_append_right _ hq'
        have HLN : Hid ((l' ++ [q]).length ≤ m + 1) := by show _ ≤ _; simp; omega
        have HRUN : Hid _ := hrun
        generalize l'.length = ln at *
        clear hq hz9 hr hWr hnd hzz hne htk hrl e2 hown hgrow e3 hrun
        go_wp2_with (at_builtin; refine wpList_run_appendP rfl _ _ 62 rfl _ _ rfl rfl HRUN.out ?_)
        go_roundw
        case rel => exact ⟨m + 1, l' ++ [q], by omega, by go_num, HLN.out, HO2, HS2, HC2, HB2⟩
        case measure => simp [intOf]; omega
    · obtain rfl : m = n := by omega
      obtain ⟨po, co, hov⟩ := row_slice HO.out
      subst hov
      have HF2 : Hid (IsInts wr (fun i => w.heap.size ≤ i) (.slice po l'.length co) (numL l')) := by
        show Reads _ _ _ _ _
        rw [numL_len]; exact Reads.of HO.out (fun i hi => (HO.out.lt i hi).1)
      have HC2 : Hid (∀ q, q ∈ l → ∀ r, g.rules[q]? = some r → (∃ c s, c ∈ r.conj ∧ s ∈ c.seq ∧ s.name ≠ -1 ∧ cw.testBit s.name.toNat = true) → q ∈ l') := by
        have := HC.out
        rw [HN.out, List.take_length] at this; exact this
      go_wp2
      go_ret
      exact ⟨_, l', rfl, by omega, HF2, HS, HC2, HB⟩
set_option maxHeartbeats 4000000 in
set_option maxRecDepth 100000 in
theorem rulesM_any (F : Nat → Prop) (g : Gr) (W : ByteArray) (D : Md) (w : World) (h : Wm F g W D w) (hF : Fm F D) (f : Nat → Nat) (hgo : GrOk g f) {G : Nat → Prop} (u : Value) (hi : IsInts w G u (levL g.names.length f)) (k : Nat) :
    Calls Tryz.prog 47 #[.pointer (some ⟨D.kb, 0, none⟩), u, .int .i64 (k : Int)] w fun e w' => ∃ (v' : Value) (l' : List Nat), e = .returned v' ∧ l'.length ≤ 256 ∧ Hid (IsInts w' (fun i => w.heap.size ≤ i) v' (numL l')) ∧ Hid (∀ q, q ∈ l' → ∃ r, g.rules[q]? = some r ∧ f r.head.toNat = k) ∧ Hid (∀ q r, g.rules[q]? = some r → f r.head.toNat = k → q ∈ l') ∧ Hid (Below w.heap.size w w') := by
  have HW : Hid (Wm F g W D w) := h
  have HF : Hid (Fm F D) := hF
  have HGO : Hid (GrOk g f) := hgo
  obtain ⟨pu, cu, hu⟩ := hi.slc
  rw [levL_length] at hu
  subst hu
  have HI : Hid (IsInts w G (.slice pu g.names.length cu) (levL g.names.length f)) := hi
  have h9 := hgo.pl.1
  obtain ⟨n, hn⟩ : ∃ n, n = g.rules.length := ⟨_, rfl⟩
  have HN : Hid (n = g.rules.length) := hn
  have k3 := h.k3
  rw [← hn] at h9 k3
  obtain ⟨nn, hnn⟩ : ∃ nn, nn = g.names.length := ⟨_, rfl⟩
  have HNN : Hid (nn = g.names.length) := hnn
  rw [← hnn] at HI ⊢
  clear h hF hgo hi hn hnn
  go_enter Tryz.func47, Tryz.ntmps47
  go_wp2
  go_loopw [7, 16] (fun o x wr => ∃ (m : Nat) (l' : List Nat), m ≤ n ∧ x = .int .i64 (m : Int) ∧ l'.length ≤ m ∧ Hid (wr.ownsRow w.heap.size 3 1 o l'.length (intsV (numL l'))) ∧ Hid (∀ q, q ∈ l' → ∃ r, g.rules[q]? = some r ∧ f r.head.toNat = k) ∧ Hid (∀ q r, q < m → g.rules[q]? = some r → f r.head.toNat = k → q ∈ l') ∧ Hid (Below w.heap.size w wr)) (fun _ x _ => n - (intOf x).toNat)
  case atStart => exact ⟨0, [], Nat.zero_le _, rfl, Nat.zero_le _, World.ownsRow_nil _ _ _ _, (fun q hq => (by cases hq)), (fun q r hq => (by omega)), Below.refl _ _⟩
  case round =>
    obtain ⟨m, l', hm1, rfl, hlm, HO, HS, HC, HB⟩ := hrel
    clear k3
    by_cases hlt : m < n
    · obtain ⟨r, hr⟩ : ∃ r, g.rules[m]? = some r := ⟨_, List.getElem?_eq_getElem (by rw [← HN.out]; exact hlt)⟩
      have hmem := List.mem_of_getElem? hr
      have hWr := HW.out.any HF.out HB.out
      obtain ⟨g1, o1, p1, c1, e1, a0, a1, -⟩ := hWr.rule hr
      rw [e1]
      obtain ⟨x, hx⟩ : ∃ x : Nat, r.head = (x : Int) := ⟨r.head.toNat, by have := HGO.out.hd r hmem; omega⟩
      have hxn : r.head.toNat = x := by rw [hx]; rfl
      have hxN : x < nn := by rw [HNN.out, ← hxn]; exact (HGO.out.nm r hmem).1
      obtain ⟨g2, o2, hp2, hg2, cx⟩ := (HI.out.any HB.out).at (levL_at f hxN)
      subst hp2
      obtain ⟨fx, hfx⟩ : ∃ fx, fx = f x := ⟨_, rfl⟩
      rw [← hfx] at cx
      rw [hx] at a0
      have hfr : f r.head.toNat = fx := by rw [hxn, hfx]
      obtain ⟨po, co, hov⟩ := row_slice HO.out
      subst hov
      obtain ⟨X, hX⟩ : ∃ X, X = wr.alloc (.cells #[.int .i64 (x : Int), .slice p1 r.conj.length c1] 53) := ⟨_, rfl⟩
      have hXb : Below wr.heap.size wr X := by rw [hX]; exact bel1 _ _
      have hXB : Below w.heap.size w X := HB.out.trans (hXb.mono HB.out.size)
      have HXB : Hid (Below w.heap.size w X) := hXB
      have hXO : X.ownsRow w.heap.size 3 1 (.slice po l'.length co) l'.length (intsV (numL l')) := row_keep HO.out hXb
      have HXO : Hid (X.ownsRow w.heap.size 3 1 (.slice po l'.length co) l'.length (intsV (numL l'))) := hXO
      have x0 : X.cell? ⟨wr.heap.size, 0, none⟩ = some (.int .i64 (x : Int)) := by rw [hX]; exact World.cell?_alloc_at _ _ _ _ rfl
      have cx2 : X.cell? ⟨g2, o2 + x, none⟩ = some (.int .i64 (fx : Int)) := by rw [hX]; exact (World.cell?_alloc_past _ _ _ hg2).trans cx
      obtain ⟨nb, hnb⟩ : ∃ nb, nb = wr.heap.size := ⟨_, rfl⟩
      rw [← hnb] at x0
      obtain ⟨cl, hcl⟩ : ∃ cl, cl = r.conj.length := ⟨_, rfl⟩
      rw [← hcl] at hX a1
      by_cases hq : fx = k
      · obtain ⟨gg, cap, w2, hrun, hown, hgrow⟩ := app_intM X w.heap.size (numL l') po l'.length co (numL_len l').symm hXO hXB.size (by omega) (m : Int)
        have HB2 : Hid (Below w.heap.size w w2) := (hXB.alloc hXB.size _).grown hgrow (by have := hXB.size; simp; omega) (fun i hi => (hXO.lt i hi).1)
        have e3 : numL l' ++ [(m : Int)] = numL (l' ++ [m]) := by simp [numL]
        rw [e3] at hown
        have HO2 : Hid (w2.ownsRow w.heap.size 3 1 (.slice (some ⟨gg, 0, none⟩) (l'.length + 1) cap) (l' ++ [m]).length (intsV (numL (l' ++ [m])))) := by
          show World.ownsRow _ _ _ _ _ _ _
          rw [List.length_append]; exact hown
        have HS2 : Hid (∀ q', q' ∈ l' ++ [m] → ∃ r, g.rules[q']? = some r ∧ f r.head.toNat = k) := fun q' hq' => by
          rcases List.mem_append.1 hq' with hq' | hq'
          · exact HS.out q' hq'
          · obtain rfl : q' = m := by simpa using hq'
            exact ⟨r, hr, by rw [hfr]; exact hq⟩
        have HC2 : Hid (∀ q r, q < m + 1 → g.rules[q]? = some r → f r.head.toNat = k → q ∈ l' ++ [m]) := fun q' r' hq' hr' hf' => by
          by_cases e : q' = m
          · subst e; simp
          · exact List.mem_append_left _ (HC.out q' r' (by omega) hr' hf')
        have HLN : Hid ((l' ++ [m]).length ≤ m + 1) := by show _ ≤ _; simp; omega
        have HRUN : Hid _ := hrun
        subst hq
        generalize l'.length = ln at *
        clear hr hWr hXb hXB hXO hown hgrow e3 hrun hx hxn hfx hfr cx hmem hcl e1
        go_upto_region 5 with fail
        rw [← hX, ← hnb]
        clear hX hnb
        go_wp2_with (at_builtin; refine wpList_run_appendP rfl _ _ 62 rfl _ _ rfl rfl HRUN.out ?_)
        go_roundw
        case rel => exact ⟨m + 1, l' ++ [m], by omega, by go_num, HLN.out, HO2, HS2, HC2, HB2⟩
        case measure => simp [intOf]; omega
      · have n1 : ((fx : Int) == (k : Int)) = false := by rw [beq_eq_false_iff_ne]; omega
        have n2 : ¬ (fx : Int) = (k : Int) := by omega
        have HC2 : Hid (∀ q r, q < m + 1 → g.rules[q]? = some r → f r.head.toNat = k → q ∈ l') := fun q' r' hq' hr' hf' => by
          by_cases e : q' = m
          · subst e
            rw [hr] at hr'; injection hr' with hr'; subst hr'
            rw [hfr] at hf'; exact absurd hf' hq
          · exact HC.out q' r' (by omega) hr' hf'
        clear hr hWr hXb hXB hXO hx hxn hfx hfr cx hmem hcl hq e1
        go_upto_region 5 with fail
        rw [← hX, ← hnb]
        clear hX hnb
        go_wp2
        go_roundw
        case rel => exact ⟨m + 1, l', by omega, by go_num, by omega, HXO, HS, HC2, HXB⟩
        case measure => simp [intOf]; omega
    · obtain rfl : m = n := by omega
      obtain ⟨po, co, hov⟩ := row_slice HO.out
      subst hov
      have HF2 : Hid (IsInts wr (fun i => w.heap.size ≤ i) (.slice po l'.length co) (numL l')) := by
        show Reads _ _ _ _ _
        rw [numL_len]; exact Reads.of HO.out (fun i hi => (HO.out.lt i hi).1)
      have HC2 : Hid (∀ q r, g.rules[q]? = some r → f r.head.toNat = k → q ∈ l') := fun q r hr hf => HC.out q r (by rw [HN.out]; exact (List.getElem?_eq_some_iff.1 hr).1) hr hf
      go_wp2
      go_ret
      exact ⟨_, l', rfl, by omega, HF2, HS, HC2, HB⟩
set_option maxHeartbeats 2000000 in
theorem maxM_any (f : Nat → Nat) (n : Nat) (v : Value) (w : World) {F : Nat → Prop} (hi : IsInts w F v (levL n f)) (h0 : 0 < n) (hn : n ≤ 64) (hf : ∀ i, i < n → f i < 64) :
    Calls Tryz.prog 45 #[v] w fun e w' => ∃ m : Nat, e = .returned (.int .i64 (m : Int)) ∧ m < 64 ∧ Hid (∀ i, i < n → f i ≤ m) ∧ Hid (Below w.heap.size w w') := by
  obtain ⟨p, cp, rfl⟩ := hi.slc
  rw [levL_length] at hi ⊢
  have HI : Hid (IsInts w F (.slice p n cp) (levL n f)) := hi
  have HF : Hid (∀ i, i < n → f i < 64) := hf
  obtain ⟨g0, o0, hp0, hg0, c0⟩ := hi.at (levL_at f h0)
  subst hp0
  obtain ⟨f0, hf0⟩ : ∃ f0, f0 = f 0 := ⟨_, rfl⟩
  have hlt0 : f0 < 64 := by rw [hf0]; exact hf 0 h0
  have HA0 : Hid (∀ i, i < 1 → f i ≤ f0) := fun i hi => by
    obtain rfl : i = 0 := by omega
    rw [hf0]; exact Nat.le_refl _
  rw [← hf0, Nat.add_zero] at c0
  have n1 : ¬ (n : Int) < 1 := by omega
  have n2 : decide ((n : Int) < 1) = false := by simp; omega
  have n3 : ¬ n < 1 := by omega
  have n4 : (0 : Int) < (n : Int) := by omega
  clear hi hf hf0
  go_enter Tryz.func45, Tryz.ntmps45
  go_wp2
  go_loopw [3, 4] (fun z x wr => ∃ k m : Nat, k ≤ n ∧ x = .int .i64 k ∧ z = .int .i64 m ∧ m < 64 ∧ Hid (∀ i, i < k → f i ≤ m) ∧ Hid (Below w.heap.size w wr)) (fun _ x _ => n - (intOf x).toNat)
  case atStart => exact ⟨1, f0, by omega, rfl, rfl, hlt0, HA0, Below.refl _ _⟩
  case round =>
    obtain ⟨k, m, hk, rfl, rfl, hm, HU, HB⟩ := hrel
    by_cases hlt : k < n
    · obtain ⟨g2, o2, hp2, hg2, cx⟩ := (HI.out.any HB.out).at (levL_at f hlt)
      simp only [Option.some.injEq, Addr.mk.injEq, and_true] at hp2
      obtain ⟨rfl, rfl⟩ := hp2
      obtain ⟨fk, hfk⟩ : ∃ fk, fk = f k := ⟨_, rfl⟩
      have hk64 : fk < 64 := by rw [hfk]; exact HF.out k hlt
      have HN : Hid (∀ i, i < k + 1 → f i ≤ max m fk) := fun i hi => by
        by_cases e : i = k
        · subst e; rw [hfk]; exact Nat.le_max_right _ _
        · exact Nat.le_trans (HU.out i (by omega)) (Nat.le_max_left _ _)
      rw [← hfk] at cx
      clear hfk
      go_wp2
      go_roundw
      case rel => exact ⟨k + 1, max m fk, by omega, by go_num, by congr 1; omega, by omega, HN, HB⟩
      case measure => simp [intOf]; omega
    · obtain rfl : k = n := by omega
      go_wp2
      go_ret
      exact ⟨m, rfl, hm, HU, HB⟩
end Go.Proofs.YtfjejnkjlnkkhaaGreatDoor
/- settle, settleAll of the program. -/
namespace Go.Proofs.YtfjejnkjlnkkhaaGreatDoor
set_option linter.unusedVariables false
set_option linter.unusedSimpArgs false
open Go.ChangeShapes Go.WideShapes Go.ChangeAt Go.RowKit

theorem Sd.mono {b : Nat → Nat} {n N : Nat} {L : List Ru} {f : Nat → Nat} {k : Nat} {D D' : Nat → Nat → Prop} {H T : SpM} (h : Sd b n N L f k D H T) (hD : ∀ a c, D' a c → D a c) : Sd b n N L f k D' H T :=
  ⟨h.jm, h.spn, h.snd, h.low, fun q c p i j r d h1 h2 h3 h4 h5 h6 => h.dn q c p i j r d h1 h2 h3 h4 (hD _ _ h5) h6, fun r h1 h2 i j h3 h4 => h.cl r h1 h2 i j (hD _ _ h3) h4⟩
/-- The spans that are done ahead of (i, j). -/
def Dn (n i j : Nat) : Nat → Nat → Prop := fun a c => (i < a ∨ (a = i ∧ c < j)) ∧ a ≤ c ∧ c ≤ n
theorem gp_cnt {b : Nat → Nat} {n N : Nat} {L : List Ru} {f : Nat → Nat} {k : Nat} {D : Nat → Nat → Prop} {H T T' : SpM} {i j cw : Nat} {R : Nat → Prop} (h : Gp b n N L f k D H T T' i j (fun x => cw.testBit x) R) : cntS (fun x => T x i j) N + (if cw = 0 then 0 else 1) ≤ cntS (fun x => T' x i j) N := by
  split
  · exact cnt_mono (fun x hx => h.up x i j hx) N
  · rename_i hc
    obtain ⟨x, hx⟩ := Nat.exists_testBit_of_ne_zero hc
    obtain ⟨h1, h2, h3⟩ := h.ch x hx
    exact cnt_lt (s := fun x => T x i j) (t := fun x => T' x i j) (fun y hy => h.up y i j hy) h2 h3 N h1
set_option maxHeartbeats 4000000 in
set_option maxRecDepth 100000 in
theorem settle_any (F : Nat → Prop) (g : Gr) (W : ByteArray) (D : Md) (T : SpM) (w : World) (h : Wm F g W D w) (hF : Fm F D) (hH : HasAt w D.hb (allN g) T) (f : Nat → Nat) (hgo : GrOk g f) {G : Nat → Prop} (v : Value) (l : List Nat) (hl : IsInts w G v (numL l)) (h9 : l.length ≤ 256) (hG : ∀ i, G i → i ≠ D.hb) (k : Nat) (hlr : ∀ q, q ∈ l → ∃ r, g.rules[q]? = some r ∧ f r.head.toNat = k) (hla : ∀ q r, g.rules[q]? = some r → f r.head.toNat = k → q ∈ l) (hm : W.size ≤ 32) (H : SpM)
    (hsd : Sd (btsW W) W.size g.names.length g.rules f k (fun _ _ => False) H T) :
    Calls Tryz.prog 46 #[.pointer (some ⟨D.kb, 0, none⟩), v] w fun e w' => e = .returned (.tuple #[]) ∧ Hid (∃ T', HasAt w' D.hb (allN g) T' ∧ Sd (btsW W) W.size g.names.length g.rules f k (fun i j => i ≤ j ∧ j ≤ W.size) H T' ∧ Bu D.hb w w') := by
  have HW : Hid (Wm F g W D w) := h
  have HF : Hid (Fm F D) := hF
  have HGO : Hid (GrOk g f) := hgo
  have HH : Hid (HasAt w D.hb (allN g) T) := hH
  have HLR : Hid (∀ q, q ∈ l → ∃ r, g.rules[q]? = some r ∧ f r.head.toNat = k) := hlr
  have HLA : Hid (∀ q r, g.rules[q]? = some r → f r.head.toNat = k → q ∈ l) := hla
  have HL : Hid (IsInts w (fun i => G i ∧ i < w.heap.size) v (numL l)) := Reads.low hl (fun i h1 h2 => ⟨h1, h2⟩)
  have HG : Hid (∀ i, G i → i ≠ D.hb) := hG
  have HSD : Hid (Sd (btsW W) W.size g.names.length g.rules f k (fun a c => W.size + 1 ≤ a ∧ a ≤ c ∧ c ≤ W.size) H T) := hsd.mono fun a c hx => by omega
  have HLW : Hid (∀ wr, Bu D.hb w wr → IsInts wr (fun i => G i ∧ i < w.heap.size) v (numL l)) := fun wr hb => Reads.keep HL.out (hb.stay fun i hi => ⟨hi.2, HG.out i hi.1⟩) (fun _ h => h)
  have HCL : Hid (∀ wr, Bu D.hb w wr → wr.cell? ⟨D.kb, 0, none⟩ = some (.pointer (some ⟨D.tb, 0, none⟩)) ∧ wr.cell? ⟨D.tb, 0, none⟩ = some (.int .i64 (W.size : Int))) := fun wr hb => ⟨(HW.out.bu HF.out hb).k0, (HW.out.bu HF.out hb).t0⟩
  obtain ⟨q0, q1⟩ := HCL.out w (Bu.refl _ _)
  have KG : Hid (∀ (wr : World) (T' : SpM) (v' : Value) (l' : List Nat) (G' : Nat → Prop) (i j : Nat), Bu D.hb w wr → HasAt wr D.hb (allN g) T' → IsInts wr G' v' (numL l') → (∀ i, G' i → i ≠ D.hb) → (∀ q, q ∈ l' → q ∈ l) → i ≤ j → j ≤ W.size → Gp (btsW W) W.size g.names.length g.rules f k (Dn W.size i j) H T' T' i j (fun _ => false) (fun q => q ∈ l') →
      Calls Tryz.prog 64 #[.pointer (some ⟨D.kb, 0, none⟩), v', .int .i64 (i : Int), .int .i64 (j : Int)] wr fun e w' => ∃ (cw : Nat) (T2 : SpM), e = .returned (.int .u64 (cw : Int)) ∧ cw < 18446744073709551616 ∧ Hid (HasAt w' D.hb (allN g) T2) ∧ Hid (Gp (btsW W) W.size g.names.length g.rules f k (Dn W.size i j) H T' T2 i j (fun x => cw.testBit x) (fun _ => False)) ∧ Hid (Bu D.hb wr w')) := fun wr T' v' l' G' i j hb ht hl' hG' hll hij hj hgp =>
    growM_any F g W D T' wr (HW.out.bu HF.out hb) HF.out ht f HGO.out v' l' hl' hG' k (fun q hq => HLR.out q (hll q hq)) i j hij hj hm (Dn W.size i j) (fun a h1 h2 => ⟨Or.inl h1, h2, hj⟩) (fun a c hx => by unfold Dn at hx; omega) H hgp
  have KN : Hid (∀ (wr : World) (cw : Nat), Bu D.hb w wr → cw < 18446744073709551616 → Calls Tryz.prog 65 #[.pointer (some ⟨D.kb, 0, none⟩), v, .int .u64 (cw : Int)] wr fun e w' => ∃ (v' : Value) (l' : List Nat), e = .returned v' ∧ l'.length ≤ l.length ∧ Hid (IsInts w' (fun i => wr.heap.size ≤ i) v' (numL l')) ∧ Hid (∀ q, q ∈ l' → q ∈ l) ∧ Hid (∀ q, q ∈ l → ∀ r, g.rules[q]? = some r → (∃ c s, c ∈ r.conj ∧ s ∈ c.seq ∧ s.name ≠ -1 ∧ cw.testBit s.name.toNat = true) → q ∈ l') ∧ Hid (Below wr.heap.size wr w')) := fun wr cw hb hcw =>
    needing_any F g W D wr (HW.out.bu HF.out hb) HF.out v l (HLW.out wr hb) h9 (fun q hq => (HLR.out q hq).imp fun r hr => hr.1) cw hcw
  obtain ⟨pv, cv, hv, -, -⟩ := Reads.num hl
  obtain ⟨nl, hnl⟩ : ∃ nl, nl = (numL l).length := ⟨_, rfl⟩
  rw [← hnl] at hv
  obtain ⟨n, hn⟩ : ∃ n, n = W.size := ⟨_, rfl⟩
  have HN : Hid (n = W.size) := hn
  rw [← hn] at HSD HCL q1 hm KG
  have HFN : Hid (∀ T' : SpM, Sd (btsW W) n g.names.length g.rules f k (fun a c => 0 ≤ a ∧ a ≤ c ∧ c ≤ n) H T' → Sd (btsW W) W.size g.names.length g.rules f k (fun i j => i ≤ j ∧ j ≤ W.size) H T') := fun T' h => by
    rw [hn] at h; exact h.mono fun a c hx => ⟨Nat.zero_le _, hx⟩
  have HSD2 := HSD
  have KG2 := KG
  subst hv
  clear h hF hgo hH hl hG hlr hla hsd HSD KG hn hnl
  go_enter Tryz.func46, Tryz.ntmps46
  go_wp2
  go_loopw [4] (fun x wr => ∃ (m : Nat) (T' : SpM), m ≤ n + 1 ∧ x = .int .i64 ((m : Int) - 1) ∧ Hid (HasAt wr D.hb (allN g) T') ∧ Hid (Sd (btsW W) n g.names.length g.rules f k (fun a c => m ≤ a ∧ a ≤ c ∧ c ≤ n) H T') ∧ Hid (Bu D.hb w wr)) (fun x _ => (intOf x + 1).toNat)
  case atStart => exact ⟨n + 1, T, Nat.le_refl _, by go_num, HH, HSD2, Bu.refl _ _⟩
  case round =>
    clear q0 q1 HSD2 HH
    obtain ⟨m, T', hm1, rfl, HT, HS, HB⟩ := hrel
    cases m with
    | zero =>
      rw [show ((0 : Nat) : Int) - 1 = -1 by omega]
      have HS2 := HFN.out T' HS.out
      have FIN : Hid (∃ T', HasAt wr D.hb (allN g) T' ∧ Sd (btsW W) W.size g.names.length g.rules f k (fun i j => i ≤ j ∧ j ≤ W.size) H T' ∧ Bu D.hb w wr) := ⟨T', HT.out, HS2, HB.out⟩
      clear HS2
      go_wp2
      go_end0
      exact ⟨rfl, FIN⟩
    | succ i =>
      rw [show ((i + 1 : Nat) : Int) - 1 = (i : Int) by omega]
      have HS2 : Hid (Sd (btsW W) n g.names.length g.rules f k (Dn n i i) H T') := HS.out.mono fun a c hx => by unfold Dn at hx; omega
      obtain ⟨q0, q1⟩ := HCL.out wr HB.out
      go_wp2
      go_loopw [5] (fun x wr => ∃ (j : Nat) (T' : SpM), i ≤ j ∧ j ≤ n + 1 ∧ x = .int .i64 (j : Int) ∧ Hid (HasAt wr D.hb (allN g) T') ∧ Hid (Sd (btsW W) n g.names.length g.rules f k (Dn n i j) H T') ∧ Hid (Bu D.hb w wr)) (fun x _ => n + 1 - (intOf x).toNat)
      case atStart => exact ⟨i, T', Nat.le_refl _, by omega, rfl, HT, HS2, HB⟩
      case round =>
        clear q0 q1 HS2 HT HS HB
        obtain ⟨j, T1, hij, hj1, rfl, HT, HS, HB⟩ := hrel
        obtain ⟨q0, q1⟩ := HCL.out wr HB.out
        by_cases hlt : j ≤ n
        · have hltI : (j : Int) ≤ (n : Int) := by omega
          have K1 := KG2.out wr T1 (.slice pv nl cv) l _ i j HB.out HT.out (HLW.out wr HB.out) (fun i hi => HG.out i hi.1) (fun q hq => hq) hij hlt (Gp.begin HS.out HLA.out)
          go_wp2_with (go_at_call 64; refine K1.mono ?_; rintro e w1 ⟨cw, T2, rfl, hcw, HT2, HP2, HB2⟩)
          have HB3 : Hid (Bu D.hb w w1) := HB.out.trans HB2.out
          clear K1 HB2 HT q0 q1 HS
          go_loopg [6] (g.names.length + 1) (fun gk x wq => ∃ (cw : Nat) (Ta Tb : SpM), x = .int .u64 (cw : Int) ∧ cw < 18446744073709551616 ∧ g.names.length + 1 ≤ cntS (fun x => Tb x i j) g.names.length + gk + (if cw = 0 then 1 else 0) ∧ Hid (HasAt wq D.hb (allN g) Tb) ∧ Hid (Gp (btsW W) n g.names.length g.rules f k (Dn n i j) H Ta Tb i j (fun x => cw.testBit x) (fun _ => False)) ∧ Hid (Bu D.hb w wq))
          case atStart => exact ⟨cw, T1, T2, rfl, hcw, by omega, HT2, HP2, HB3⟩
          case round =>
            clear HT2 HP2 HB3 hcw
            obtain ⟨cw, Ta, Tb, rfl, hcw, hcn, HT, HP, HB9⟩ := hrel
            by_cases hz : cw = 0
            · subst hz
              have HS3 : Hid (Sd (btsW W) n g.names.length g.rules f k (Dn n i (j + 1)) H Tb) := HP.out.fin (fun x => Nat.zero_testBit x) fun a c hx => by
                unfold Dn at hx ⊢; omega
              clear hcn
              go_wp2
              go_roundw
              case rel => exact ⟨j + 1, Tb, by omega, by omega, by go_num, HT, HS3, HB9⟩
              case measure => simp [intOf]; omega
            · have hz1 : ((cw : Int) == 0) = false := by rw [beq_eq_false_iff_ne]; omega
              have hz2 : ¬ (cw : Int) = 0 := by omega
              rw [if_neg hz] at hcn
              have hcl := cnt_le (fun x => Tb x i j) g.names.length
              have HKN := KN.out wr cw HB9.out hcw
              have HCN : Hid (g.names.length + 1 ≤ cntS (fun x => Tb x i j) g.names.length + gk + 0) := hcn
              have hgk : 1 ≤ gk := by omega
              have HFW : Hid (∀ (w4 : World) (v4 : Value) (l4 : List Nat), IsInts w4 (fun i => wr.heap.size ≤ i) v4 (numL l4) → (∀ q, q ∈ l4 → q ∈ l) → (∀ q, q ∈ l → ∀ r, g.rules[q]? = some r → (∃ c s, c ∈ r.conj ∧ s ∈ c.seq ∧ s.name ≠ -1 ∧ cw.testBit s.name.toNat = true) → q ∈ l4) → Below wr.heap.size wr w4 →
                  Calls Tryz.prog 64 #[.pointer (some ⟨D.kb, 0, none⟩), v4, .int .i64 (i : Int), .int .i64 (j : Int)] w4 fun e w' => ∃ (cw : Nat) (T2 : SpM), e = .returned (.int .u64 (cw : Int)) ∧ cw < 18446744073709551616 ∧ Hid (HasAt w' D.hb (allN g) T2) ∧ Hid (g.names.length + 1 ≤ cntS (fun x => T2 x i j) g.names.length + (gk - 1) + (if cw = 0 then 1 else 0)) ∧ Hid (Gp (btsW W) n g.names.length g.rules f k (Dn n i j) H Tb T2 i j (fun x => cw.testBit x) (fun _ => False)) ∧ Hid (Bu D.hb w w')) := fun w4 v4 l4 h1 h2 h3 h4 => by
                have hb4 : Bu D.hb w w4 := HB9.out.trans (Bu.of h4)
                refine (KG2.out w4 Tb v4 l4 _ i j hb4 (HT.out.any h4) h1 (fun i hi e => ?_) h2 hij hlt (HP.out.next fun q r hr hk hx => h3 q (HLA.out q r hr hk) r hr hx)).mono ?_
                · have := HT.out.lt; omega
                · rintro e w5 ⟨cw2, T5, h5, h6, h7, h8, h10⟩
                  refine ⟨cw2, T5, h5, h6, h7, ?_, h8, hb4.trans h10.out⟩
                  have c1 := gp_cnt h8.out
                  have c2 := HCN.out
                  show _ ≤ _
                  by_cases e : cw2 = 0
                  · rw [if_pos e] at c1 ⊢; omega
                  · rw [if_neg e] at c1 ⊢; omega
              clear hcl hcn hz
              go_wp2_with (first
                | (go_at_call 65; refine HKN.mono ?_; rintro e w4 ⟨v4, l4, rfl, hl4, HI4, HS4, HC4, HB4⟩; have HK4 := HFW.out w4 v4 l4 HI4.out HS4.out HC4.out HB4.out)
                | (go_at_call 64; refine HK4.mono ?_; rintro e w5 ⟨cw2, T5, rfl, hcw2, HT5, HC5, HP5, HB5⟩))
              go_roundg (gk - 1)
              case measure => omega
              case rel => exact ⟨cw2, Tb, T5, rfl, hcw2, HC5.out, HT5, HP5, HB5⟩
        · obtain rfl : j = n + 1 := by omega
          have hltI : ¬ ((n + 1 : Nat) : Int) ≤ (n : Int) := by omega
          have HS3 : Hid (Sd (btsW W) n g.names.length g.rules f k (fun a c => i ≤ a ∧ a ≤ c ∧ c ≤ n) H T1) := HS.out.mono fun a c hx => by unfold Dn; omega
          go_wp2
          go_roundw
          case rel => exact ⟨i, T1, by omega, rfl, HT, HS3, HB⟩
          case measure => simp [intOf]
set_option maxHeartbeats 4000000 in
set_option maxRecDepth 100000 in
theorem settleAll_any (F : Nat → Prop) (g : Gr) (W : ByteArray) (D : Md) (w : World) (h : Wm F g W D w) (hF : Fm F D) (hH : HasAt w D.hb (allN g) (fun _ _ _ => false)) (f : Nat → Nat) (hgo : GrOk g f) {G : Nat → Prop} (u : Value) (hu : IsInts w G u (levL g.names.length f)) (hG : ∀ i, G i → i ≠ D.hb) (h0 : 0 < g.names.length) (hf : ∀ i, i < g.names.length → f i < 64) (hm : W.size ≤ 32) :
    Calls Tryz.prog 29 #[.pointer (some ⟨D.kb, 0, none⟩), u] w fun e w' => e = .returned (.tuple #[]) ∧ Hid (∃ T', HasAt w' D.hb (allN g) T' ∧ MnOk (btsW W) W.size g.names.length g.rules T' ∧ Bu D.hb w w') := by
  have HW : Hid (Wm F g W D w) := h
  have HF : Hid (Fm F D) := hF
  have HGO : Hid (GrOk g f) := hgo
  have HG : Hid (∀ i, G i → i ≠ D.hb) := hG
  have HU : Hid (IsInts w (fun i => G i ∧ i < w.heap.size) u (levL g.names.length f)) := Reads.low hu (fun i h1 h2 => ⟨h1, h2⟩)
  have HUW : Hid (∀ wr, Bu D.hb w wr → IsInts wr (fun i => G i ∧ i < w.heap.size) u (levL g.names.length f)) := fun wr hb => Reads.keep HU.out (hb.stay fun i hi => ⟨hi.2, HG.out i hi.1⟩) (fun _ h => h)
  have KM := maxM_any f g.names.length u w hu h0 hgo.nn hf
  have KR : Hid (∀ (wr : World) (k : Nat), Bu D.hb w wr → Calls Tryz.prog 47 #[.pointer (some ⟨D.kb, 0, none⟩), u, .int .i64 (k : Int)] wr fun e w' => ∃ (v' : Value) (l' : List Nat), e = .returned v' ∧ l'.length ≤ 256 ∧ Hid (IsInts w' (fun i => wr.heap.size ≤ i) v' (numL l')) ∧ Hid (∀ q, q ∈ l' → ∃ r, g.rules[q]? = some r ∧ f r.head.toNat = k) ∧ Hid (∀ q r, g.rules[q]? = some r → f r.head.toNat = k → q ∈ l') ∧ Hid (Below wr.heap.size wr w')) := fun wr k hb => rulesM_any F g W D wr (HW.out.bu HF.out hb) HF.out f HGO.out u (HUW.out wr hb) k
  have KS : Hid (∀ (w0 wr : World) (T' : SpM) (k : Nat) (v' : Value) (l' : List Nat), Bu D.hb w w0 → HasAt w0 D.hb (allN g) T' → Lv (btsW W) W.size g.names.length g.rules f k T' → l'.length ≤ 256 → IsInts wr (fun i => w0.heap.size ≤ i) v' (numL l') → (∀ q, q ∈ l' → ∃ r, g.rules[q]? = some r ∧ f r.head.toNat = k) → (∀ q r, g.rules[q]? = some r → f r.head.toNat = k → q ∈ l') → Below w0.heap.size w0 wr →
      Calls Tryz.prog 46 #[.pointer (some ⟨D.kb, 0, none⟩), v'] wr fun e w' => e = .returned (.tuple #[]) ∧ Hid (∃ T2, HasAt w' D.hb (allN g) T2 ∧ Lv (btsW W) W.size g.names.length g.rules f (k + 1) T2 ∧ Bu D.hb w w')) := fun w0 wr T' k v' l' h1 h2 h3 h4 h5 h6 h7 h8 => by
    have hb : Bu D.hb w wr := h1.trans (Bu.of h8)
    refine (settle_any F g W D T' wr (HW.out.bu HF.out hb) HF.out (h2.any h8) f HGO.out v' l' h5 h4 (fun i hi e => by have := h2.lt; omega) k h6 h7 hm (nmT g.names.length T') h3.begin).mono ?_
    rintro e w' ⟨rfl, hx⟩
    obtain ⟨T2, a1, a2, a3⟩ := hx.out
    exact ⟨rfl, T2, a1, h3.next HGO.out.st HGO.out.nm a2, hb.trans a3⟩
  have HL0 : Hid (Lv (btsW W) W.size g.names.length g.rules f 0 (fun _ _ _ => false)) := Lv.zero
  have HH : Hid (HasAt w D.hb (allN g) (fun _ _ _ => false)) := hH
  obtain ⟨pu, cu, hue⟩ := hu.slc
  rw [levL_length] at hue
  subst hue
  obtain ⟨nn, hnn⟩ : ∃ nn, nn = g.names.length := ⟨_, rfl⟩
  have HNN : Hid (nn = g.names.length) := hnn
  generalize (fun _ _ _ => false : SpM) = T0 at *
  clear h hF hgo hH hu hG hf hnn
  go_enter Tryz.func29, Tryz.ntmps29
  go_wp2_with (go_at_call 45; refine KM.mono ?_; rintro e w1 ⟨m, rfl, hm64, HMX, b1⟩)
  have HH1 : Hid (HasAt w1 D.hb (allN g) T0) := HH.out.any b1.out
  have HB1 : Hid (Bu D.hb w w1) := Bu.of b1.out
  clear KM b1
  go_loopw [8] (fun x wr => ∃ (k : Nat) (T' : SpM), k ≤ m + 1 ∧ x = .int .i64 (k : Int) ∧ Hid (HasAt wr D.hb (allN g) T') ∧ Hid (Lv (btsW W) W.size g.names.length g.rules f k T') ∧ Hid (Bu D.hb w wr)) (fun x _ => m + 1 - (intOf x).toNat)
  case atStart => exact ⟨0, T0, Nat.zero_le _, rfl, HH1, HL0, HB1⟩
  case round =>
    clear HH1 HL0 HB1 HH
    obtain ⟨k, T', hk, rfl, HT, HL, HB⟩ := hrel
    by_cases hlt : k < m + 1
    · have hlt2 : (k : Int) < (m : Int) + 1 := by omega
      have K1 := KR.out wr k HB.out
      have HK2 : Hid (∀ (w4 : World) (v' : Value) (l' : List Nat), l'.length ≤ 256 → IsInts w4 (fun i => wr.heap.size ≤ i) v' (numL l') → (∀ q, q ∈ l' → ∃ r, g.rules[q]? = some r ∧ f r.head.toNat = k) → (∀ q r, g.rules[q]? = some r → f r.head.toNat = k → q ∈ l') → Below wr.heap.size wr w4 →
          Calls Tryz.prog 46 #[.pointer (some ⟨D.kb, 0, none⟩), v'] w4 fun e w' => e = .returned (.tuple #[]) ∧ Hid (∃ T2, HasAt w' D.hb (allN g) T2 ∧ Lv (btsW W) W.size g.names.length g.rules f (k + 1) T2 ∧ Bu D.hb w w')) := fun w4 v' l' a1 a2 a3 a4 a5 => KS.out wr w4 T' k v' l' HB.out HT.out HL.out a1 a2 a3 a4 a5
      go_wp2_with (first
        | (go_at_call 47; refine K1.mono ?_; rintro e w4 ⟨v4, l4, rfl, hl4, HI4, HS4, HC4, HB4⟩; have K2 := HK2.out w4 v4 l4 hl4 HI4.out HS4.out HC4.out HB4.out; clear K1)
        | (go_at_call 46; refine K2.mono ?_; rintro e w5 ⟨rfl, HX5⟩; clear K2))
      obtain ⟨T2, a1, a2, a3⟩ := HX5.out
      have A1 : Hid (HasAt w5 D.hb (allN g) T2) := a1
      have A2 : Hid (Lv (btsW W) W.size g.names.length g.rules f (k + 1) T2) := a2
      have A3 : Hid (Bu D.hb w w5) := a3
      clear a1 a2 a3 HX5
      go_roundw
      case rel => exact ⟨k + 1, T2, by omega, by go_num, A1, A2, A3⟩
      case measure => simp [intOf]; omega
    · obtain rfl : k = m + 1 := by omega
      have n9 : ¬ ((m + 1 : Nat) : Int) < (m : Int) + 1 := by omega
      have FIN : Hid (∃ T', HasAt wr D.hb (allN g) T' ∧ MnOk (btsW W) W.size g.names.length g.rules T' ∧ Bu D.hb w wr) := ⟨T', HT.out, HL.out.fin (fun r hr => by have := HMX.out _ (HGO.out.nm r hr).1; omega), HB.out⟩
      go_wp2
      go_end0
      exact ⟨rfl, FIN⟩
end Go.Proofs.YtfjejnkjlnkkhaaGreatDoor
