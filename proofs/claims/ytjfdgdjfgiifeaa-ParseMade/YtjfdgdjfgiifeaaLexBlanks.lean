/- LexBlanks: blanks and comments ahead of a text turn nothing but places: at every argument, with no condition. -/
import Derived.Test.YtjfdgdjfgiifeaaLexJoins
namespace Go.Proofs.Ytjfdgdjfgiifeaa
set_option linter.unusedVariables false
open Go.ChangeShapes Go.WideShapes Go.ChangeAt Go.RowKit

/-- Whatever stands behind t has its own tokens, so many places on. -/
def BlankS (t : ByteArray) : Prop := ∀ x : ByteArray, t.size + x.size ≤ 65536 → lexT (t ++ x) = Res.sh t.size (lexT x)
theorem empty_app (x : ByteArray) : (⟨#[]⟩ : ByteArray) ++ x = x := ByteArray.empty_append
theorem BlankS.nil : BlankS ⟨#[]⟩ := fun x _ => by rw [empty_app]; exact (Res.sh_zero _).symm
theorem BlankS.app {t p : ByteArray} (ht : BlankS t) (hp : BlankS p) : BlankS (t ++ p) := fun x hx => by
  rw [ByteArray.size_append] at hx
  rw [ByteArray.append_assoc, ht (p ++ x) (by rw [ByteArray.size_append]; omega), hp x (by omega), Res.sh_sh, ByteArray.size_append, Nat.add_comm]
theorem BlankS.one (s : ByteArray) (c : UInt8) (hc : blankI (c.toNat : Int)) (hm : c = 10 ∨ ∀ j, j < s.size → PlainAid.bt s j ≠ 35) (h : lexT s = .ok []) : BlankS (s ++ ⟨#[c]⟩) := fun x hx => by
  have e : (s ++ ⟨#[c]⟩ : ByteArray).size = s.size + 1 := by rw [ByteArray.size_append]; rfl
  rw [e] at hx ⊢
  rw [lex_join s x c hc hm [] h hx, Res.pre_nil]
def bl : Nat → ByteArray
  | 0 => ⟨#[32]⟩
  | 1 => ⟨#[9]⟩
  | 2 => ⟨#[10]⟩
  | 3 => ⟨#[13]⟩
  | 4 => ⟨#[35, 32, 39, 120, 32, 34, 32, 36, 10]⟩
  | _ => ⟨#[35, 10]⟩
def blArr : Array Value := #[.string ⟨#[32]⟩, .string ⟨#[9]⟩, .string ⟨#[10]⟩, .string ⟨#[13]⟩, .string ⟨#[35, 32, 39, 120, 32, 34, 32, 36, 10]⟩, .string ⟨#[35, 10]⟩]
theorem blArr_at (k : Nat) (hk : k < 6) : blArr[k]? = some (.string (bl k)) := by
  match k, hk with
  | 0, _ => rfl
  | 1, _ => rfl
  | 2, _ => rfl
  | 3, _ => rfl
  | 4, _ => rfl
  | 5, _ => rfl
  | k + 6, h => exact absurd h (by omega)
theorem lex_nil : lexT ⟨#[]⟩ = .ok [] := by kernel_rfl
theorem lex_cm1 : lexT ⟨#[35, 32, 39, 120, 32, 34, 32, 36]⟩ = .ok [] := by kernel_rfl
theorem lex_cm2 : lexT ⟨#[35]⟩ = .ok [] := by kernel_rfl
theorem bl_blank (k : Nat) : BlankS (bl k) ∧ (bl k).size ≤ 9 := by
  match k with
  | 0 => exact ⟨BlankS.one ⟨#[]⟩ 32 (Or.inr (Or.inr (Or.inr rfl))) (Or.inr fun j hj => absurd hj (Nat.not_lt_zero _)) lex_nil, by decide⟩
  | 1 => exact ⟨BlankS.one ⟨#[]⟩ 9 (Or.inl rfl) (Or.inr fun j hj => absurd hj (Nat.not_lt_zero _)) lex_nil, by decide⟩
  | 2 => exact ⟨BlankS.one ⟨#[]⟩ 10 (Or.inr (Or.inl rfl)) (Or.inl rfl) lex_nil, by decide⟩
  | 3 => exact ⟨BlankS.one ⟨#[]⟩ 13 (Or.inr (Or.inr (Or.inl rfl))) (Or.inr fun j hj => absurd hj (Nat.not_lt_zero _)) lex_nil, by decide⟩
  | 4 => exact ⟨BlankS.one ⟨#[35, 32, 39, 120, 32, 34, 32, 36]⟩ 10 (Or.inr (Or.inl rfl)) (Or.inl rfl) lex_cm1, by decide⟩
  | k + 5 => exact ⟨BlankS.one ⟨#[35]⟩ 10 (Or.inr (Or.inl rfl)) (Or.inl rfl) lex_cm2, by show (⟨#[35, 10]⟩ : ByteArray).size ≤ 9; decide⟩
theorem tmod3 (x : Int) : ∃ k : Nat, k < 3 ∧ wrap64 ((IntKind.u64.wrap x).tmod 3) = (k : Int) := by
  have h1 : 0 ≤ IntKind.u64.wrap x := by rw [IntKind.wrap_u64]; omega
  refine ⟨(IntKind.u64.wrap x % 3).toNat, by omega, ?_⟩
  rw [Int.tmod_eq_emod_of_nonneg h1, ← PlainAid.i64_is, IntKind.wrap_i64]
  omega
theorem tmod6 (x : Int) : ∃ k : Nat, k < 6 ∧ wrap64 ((IntKind.u64.wrap x).tmod 6) = (k : Int) := by
  have h1 : 0 ≤ IntKind.u64.wrap x := by rw [IntKind.wrap_u64]; omega
  refine ⟨(IntKind.u64.wrap x % 6).toNat, by omega, ?_⟩
  rw [Int.tmod_eq_emod_of_nonneg h1, ← PlainAid.i64_is, IntKind.wrap_i64]
  omega
theorem tmod9 (x : Int) : ∃ k : Nat, k < 9 ∧ wrap64 ((IntKind.u64.wrap x).tmod 9) = (k : Int) := by
  have h1 : 0 ≤ IntKind.u64.wrap x := by rw [IntKind.wrap_u64]; omega
  refine ⟨(IntKind.u64.wrap x % 9).toNat, by omega, ?_⟩
  rw [Int.tmod_eq_emod_of_nonneg h1, ← PlainAid.i64_is, IntKind.wrap_i64]
  omega
/-- A row of numbers at one of its places. -/
theorem IRow.cell {w : World} {p : Option Addr} {n cap : Nat} {zs : List Int} (h : IRow w (.slice p n cap) zs) {k : Nat} {z : Int} (hk : zs[k]? = some z) : ∃ g o, p = some ⟨g, o, none⟩ ∧ g < w.heap.size ∧ w.cell? ⟨g, o + k, none⟩ = some (.int .i64 z) := by
  obtain ⟨p', c', e, _, hc⟩ := h
  injection e with e1 e2 e3
  subst e1
  exact hc k z hk

set_option maxHeartbeats 4000000 in
set_option maxRecDepth 100000 in
theorem lexBlanks_walk (w : World) (s : ByteArray) (hs : s.size ≤ 140737488351232) (v : Value) (zs : List Int) (hr : IRow w v zs) (hw : ∀ z ∈ zs, (Lit.int .i64 z).wf = true) (hz : zs.length * 8 ≤ 140737488351232) :
    Calls Try.prog 6 #[.string s, v] w fun e w' => e = .returned (.bool true) ∧ Below w.heap.size w w' := by
  obtain ⟨p, cap, rfl, hcap, -⟩ := id hr
  have HR : Hid (IRow w (.slice p zs.length cap) zs) := hr
  clear hr hw
  go_enter Try.func6, Try.ntmps6
  by_cases h5 : 5000 < s.size
  · go_wp2_with (first | (go_at_call 21; refine (awake_any _).mono ?_; rintro e wa ⟨rfl, ha⟩; have B0 : Hid (Below w.heap.size w wa) := ha; clear ha))
    go_ret
    exact ⟨rfl, B0.out⟩
  · go_wp2_with (first | (go_at_call 21; refine (awake_any _).mono ?_; rintro e wa ⟨rfl, ha⟩; have B0 : Hid (Below w.heap.size w wa) := ha; clear ha))
    go_loopw [5, 6] (fun t i wr => ∃ (j : Nat) (T : ByteArray), j ≤ zs.length ∧ j ≤ 12 ∧ i = .int .i64 j ∧ t = .string T ∧ BlankS T ∧ T.size ≤ 9 * j ∧ Below w.heap.size w wr) (fun _ i _ => 12 - (intOf i).toNat)
    case atStart => exact ⟨0, ⟨#[]⟩, by omega, by omega, rfl, rfl, BlankS.nil, Nat.le_refl _, B0.out⟩
    case round =>
      obtain ⟨j, T, hj1, hj2, rfl, rfl, hT, hTs, hW⟩ := hrel
      have HT : Hid (BlankS T) := hT
      have HW : Hid (Below w.heap.size w wr) := hW
      have hsz : w.heap.size ≤ wr.heap.size := hW.size
      by_cases hgo : j < zs.length ∧ j < 12
      · obtain ⟨hlt, h12⟩ := hgo
        obtain ⟨z, hzk⟩ : ∃ z, zs[j]? = some z := ⟨_, List.getElem?_eq_getElem hlt⟩
        obtain ⟨m, hm, em⟩ := tmod6 z
        obtain ⟨g, o, hp, hg, hc⟩ := HR.out.cell hzk
        subst hp
        have c0 : wr.cell? ⟨g, o + j, none⟩ = some (.int .i64 z) := (hW.cell (p := ⟨g, _, none⟩) hg).trans hc
        have hg' : g < wr.heap.size := Nat.lt_of_lt_of_le hg hsz
        have hb := bl_blank m
        have hbs := hb.2
        have HB : Hid (BlankS (bl m)) := hb.1
        have hc1 : ∀ wa : World, (wa.alloc (.cells blArr 9)).cell? ⟨wa.heap.size, m, none⟩ = some (.string (bl m)) := fun wa => (World.cell?_alloc_at _ _ _ _ rfl).trans (blArr_at m hm)
        have hc2 := blArr_at m hm
        simp only [blArr] at hc1 hc2
        generalize bl m = u at *
        clear hT hW hzk hc hg hb
        go_wp2
        go_roundw
        case rel => exact ⟨j + 1, T ++ u, by omega, by omega, by go_num, rfl, HT.out.app HB.out, by rw [ByteArray.size_append]; omega, HW.out.alloc hsz _⟩
        case measure => simp [intOf]; omega
      · have hout : zs.length ≤ j ∨ (j < zs.length ∧ 12 ≤ j) := by omega
        have hTs2 : T.size ≤ 108 := by omega
        have hmx : s.size ≤ maxLen := by unfold maxLen; omega
        have hmx2 : (T ++ s).size ≤ maxLen := by rw [ByteArray.size_append]; unfold maxLen; omega
        have hJ : lexT (T ++ s) = Res.sh T.size (lexT s) := hT s (by omega)
        cases hA : lexT s with
        | error e =>
          obtain ⟨p', x⟩ := e
          have hx : ((x : Int) != 0) = true := by rcases lexT_err hA with e | e <;> subst e <;> rfl
          have hp' := (lexT_at hA).2
          have hJ2 : lexT (T ++ s) = .error (p' + T.size, x) := by rw [hJ, hA]; rfl
          have L1 := fun w => lex_err hA hmx w
          have L2 : ∀ w, Calls Try.prog 17 #[.string (T ++ s)] w fun e w' => ∃ q cap, e = .returned (.tuple #[.slice q 0 cap, .int .i64 ((p' : Int) + (T.size : Int)), .int .i64 (x : Int)]) ∧ Below w.heap.size w w' := fun w => by
            have h := lex_err hJ2 hmx2 w
            rw [show ((p' + T.size : Nat) : Int) = (p' : Int) + (T.size : Int) by omega] at h
            exact h
          clear hJ hJ2 hA hT hW hTs hmx hmx2 hgo
          rcases hout with hout | ⟨hout1, hout2⟩
          all_goals
            go_wp2_with (first | (go_at_call 17; first | (have hh := B1; clear hh; refine (L2 _).mono ?_; rintro e w2 ⟨q2, c2, rfl, b2⟩; have B2 : Hid (Below w.heap.size w w2) := B1.out.trans (b2.mono B1.out.size); clear b2) | (refine (L1 _).mono ?_; rintro e w1 ⟨q1, c1, rfl, b1⟩; have B1 : Hid (Below w.heap.size w w1) := HW.out.trans (b1.mono HW.out.size); clear b1)) | (go_at_call 20; refine (num_any _ _).mono ?_; rintro e wn ⟨rfl, rfl⟩))
            all_goals go_ret
            all_goals exact ⟨rfl, B2.out⟩
        | ok l =>
          have hJ2 : lexT (T ++ s) = .ok (l.map (Tok.sh T.size)) := by rw [hJ, hA]; rfl
          have L1 := fun w => lex_ok hA hmx w
          have L2 : ∀ w, Calls Try.prog 17 #[.string (T ++ s)] w fun e w' => ∃ p cap, e = .returned (.tuple #[.slice p l.length cap, .int .i64 0, .int .i64 0]) ∧ TRow w' (.slice p l.length cap) (l.map (Tok.sh T.size)) ∧ Below w.heap.size w w' := fun w => by
            have h := lex_ok hJ2 hmx2 w
            rw [List.length_map] at h
            exact h
          have ll := lexT_ok_len hA
          obtain ⟨rb, -⟩ := lexT_row hA
          have RB : Hid (Row (PlainAid.bt s) s.size 0 l) := rb
          clear hJ hJ2 hA hT hW hTs hmx hmx2 hgo rb
          rcases hout with hout | ⟨hout1, hout2⟩
          all_goals
            go_wp2_with (first | (go_at_call 17; first | (have hh := B1; clear hh; refine (L2 _).mono ?_; rintro e w2 ⟨q2, c2, rfl, T2, b2⟩; have B2 : Hid (Below w.heap.size w w2) := B1.out.trans (b2.mono B1.out.size); have R1 : Hid (TRow w2 (.slice q1 l.length c1) l) := T1.out.keep b2; have R2 : Hid (TRow w2 (.slice q2 l.length c2) (l.map (Tok.sh T.size))) := T2; clear b2 T1 T2) | (refine (L1 _).mono ?_; rintro e w1 ⟨q1, c1, rfl, t1, b1⟩; have B1 : Hid (Below w.heap.size w w1) := HW.out.trans (b1.mono HW.out.size); have T1 : Hid (TRow w1 (.slice q1 l.length c1) l) := t1; clear b1 t1)) | (go_at_call 20; refine (num_any _ _).mono ?_; rintro e wn ⟨rfl, rfl⟩))
            go_loopw [13] (fun i wr => ∃ k : Nat, k ≤ l.length ∧ i = .int .i64 k ∧ Below w2.heap.size w2 wr) (fun i _ => l.length - (intOf i).toNat)
            case atStart => exact ⟨0, by omega, rfl, Below.refl _ _⟩
            case round =>
              obtain ⟨k, hk, rfl, hW3⟩ := hrel
              have HW3 : Hid (Below w2.heap.size w2 wr) := hW3
              have heq := Try.eqTok
              have hsz3 : w2.heap.size ≤ wr.heap.size := hW3.size
              by_cases hla : k < l.length
              · obtain ⟨u, hu⟩ : ∃ u, l[k]? = some u := ⟨_, List.getElem?_eq_getElem hla⟩
                obtain ⟨g1, hp, hg1, a0, a1, a2, a3, a4⟩ := (R2.out.keep hW3).cells (k := k) (t := Tok.sh T.size u) (by rw [List.getElem?_map, hu]; rfl)
                obtain ⟨g2, hq, hg2, b0, b1, b2, b3, b4⟩ := (R1.out.keep hW3).cells hu
                have hpl := (RB.out.at hu).1.hi
                subst hp hq
                have a1' : wr.cell? ⟨g1, k * 5 + 1, none⟩ = some (.int .i64 ((u.pl : Int) + (T.size : Int))) := by rw [a1]; show some (Value.int .i64 ((u.pl + T.size : Nat) : Int)) = _; rw [show ((u.pl + T.size : Nat) : Int) = (u.pl : Int) + (T.size : Int) by omega]
                have a0' : wr.cell? ⟨g1, k * 5, none⟩ = some (.int .i64 (u.kind : Int)) := a0
                have a2' : wr.cell? ⟨g1, k * 5 + 2, none⟩ = some (.string u.text) := a2
                have a3' : wr.cell? ⟨g1, k * 5 + 3, none⟩ = some (.int .i64 u.lo) := a3
                have a4' : wr.cell? ⟨g1, k * 5 + 4, none⟩ = some (.int .i64 u.hi) := a4
                have hx1 : (0 : Int) ≤ (u.pl : Int) := by omega
                have hx2 : (u.pl : Int) ≤ 65536 := by omega
                generalize (u.kind : Int) = x0 at a0' b0
                generalize (u.pl : Int) = x1 at a1' b1 hx1 hx2
                generalize u.text = x2 at a2' b2
                generalize u.lo = x3 at a3' b3
                generalize u.hi = x4 at a4' b4
                clear hu hW3 a0 a1 a2 a3 a4 hpl
                go_wp2
                go_quiet (fail)
                go_wp2
                go_roundw
                case rel =>
                  have hb := HW3.out.alloc hsz3 (.cells #[.int .i64 x0, .int .i64 x1, .string x2, .int .i64 x3, .int .i64 x4] 33)
                  exact ⟨k + 1, by omega, by go_num, ⟨hb.os, hb.tape, hb.output, hb.size, hb.block⟩⟩
                case measure => simp [intOf]; omega
              · obtain rfl : k = l.length := by omega
                go_wp2
                go_ret
                exact ⟨rfl, B2.out.trans (HW3.out.mono B2.out.size)⟩

set_option linter.unusedVariables false
theorem lexBlanks_own : ownKnob Try.prog.godebug = none := by kernel_rfl
set_option maxRecDepth 100000 in
theorem lexBlanks_lifted (os : Os) (started : os.Started) (H : Type) (enc : TypeId × Value → H) :
    ReturnsInHanded {} Try.checked os 6 .any (Rows.lexBlanksSpec.pre6 enc Try.prog Try.f6 Rows.lexBlanksRow.domain false) (Rows.lexBlanksSpec.post enc Try.prog Try.f6 false true false false) := by
  refine returnsInHanded_of_change_sized (C := Try.checked) lexBlanks_own started (by kernel_rfl) Try.func6
    (ChangeSpec.witness6 (enc := enc) (C := Try.checked) false ⟨#[], #[.string ⟨#[]⟩, .slice none 0 0], []⟩ 8 (by kernel_rfl) (by kernel_rfl) (by kernel_rfl) (by kernel_rfl)) ?_
  intro W base args ds gs before hval0 hW hcnd hsz0 _
  have hsz : (DataW.weightsEach Try.prog (Try.f6.params.toList ++ Rows.lexBlanksSpec.plain.varTypes Try.prog) (ds ++ gs)).all (· ≤ reachBytes) = true := hsz0
  have hval : ∀ (j : Nat) t v, Try.f6.params[j]? = some t → args[j]? = some v → Value.okWide Try.prog W .any base t v := hval0
  have hW' := hW
  obtain ⟨p, q, hA0, hV, rfl, hfz, hnd⟩ := hW
  have hA : DataW.TrodAll enc Try.prog W 0 (fun _ => true) true Try.f6.params.toList args.toList ds p := hA0
  rw [Try.params6] at hA hval hsz
  obtain ⟨v0, vs0, d0, ds0, p0, q0, hargs, rfl, rfl, h0, r0⟩ := trodAll_cons hA
  obtain ⟨v1, vs1, d1, ds1, p1, q1, rfl, rfl, rfl, h1, r1⟩ := trodAll_cons r0
  obtain ⟨rfl, rfl, rfl⟩ := trodAll_nil r1
  obtain rfl : args = #[v0, v1] := by cases args; simp_all
  obtain ⟨rfl, rfl⟩ := trodVars_none hV
  clear hA0 hval0 hsz0
  have k0 := h0
  have lt0 : ∀ x ∈ p0, x.block < W.heap.size := fun x hx => by have := hW'.lt x (by simp [hx]); simpa using this
  have k1 := h1
  have lt1 : ∀ x ∈ p1, x.block < W.heap.size := fun x hx => by have := hW'.lt x (by simp [hx]); simpa using this
  obtain ⟨a0, rfl, rfl, rfl, -⟩ := ChangeMaps.open_string Try.underlying9 (hval 0 9 v0 rfl rfl) h0
  have w0 := str_reach hsz (j := 0) (t := 9) (s := a0) rfl rfl
  obtain ⟨zs1, row1, w1, hd1⟩ := open_irow Try.underlying37 (hval 1 37 v1 rfl rfl) h1
  have z1 := irow_reach hsz (j := 1) (t := 37) rfl rfl Try.underlying37 hd1
  refine (lexBlanks_walk W a0 w0 v1 zs1 row1 w1 z1).mono fun e W' ⟨he, bel⟩ => ?_
  subst he
  exact ⟨_, rfl, _, _, _, [], _, [], hW', trodAll_mk1 (shut_bool Try.underlying4 _), (trodAll_cons_mk (Below.trod Try.laidOutB (by kernel_rfl) (of_decide_eq_true (by kernel_rfl)) k0 bel lt0) (trodAll_cons_mk (Below.trod Try.laidOutB (by kernel_rfl) (of_decide_eq_true (by kernel_rfl)) k1 bel lt1) trodAll_mk0)), rfl, bel.frame _, fun h => by cases h⟩

theorem lexBlanks_holds : Rows.LexBlanksSaid :=
  OpenClaim.holds_of_wide 6 Try.f6 rfl rfl rfl rfl rfl rfl rfl ⟨rfl, rfl, rfl, rfl, rfl⟩ rfl rfl rfl rfl rfl (by kernel_rfl) Try.func6 (by kernel_rfl)
    (of_decide_eq_true (by kernel_rfl)) (by unfold Func.isWrapper; first | (rw [if_pos (by decide +kernel)]; kernel_rfl) | (rw [if_neg (by decide +kernel)]; exact ⟨rfl, rfl⟩))
    (fun os started H enc _ => lexBlanks_lifted os started H enc)
#print axioms lexBlanks_holds
end Go.Proofs.Ytjfdgdjfgiifeaa
