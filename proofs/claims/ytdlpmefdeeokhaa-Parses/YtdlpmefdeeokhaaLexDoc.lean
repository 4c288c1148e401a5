/- What the document's own Lex hands back; Lexes: the program's Lex hands back the same, of every text: at every argument, with no condition. -/
import Derived.Test.YtdlpmefdeeokhaaLexQuoted
namespace Go.Proofs.Ytdlpmefdeeokhaa
set_option linter.unusedVariables false
open Go.ChangeShapes Go.WideShapes Go.ChangeAt Go.RowKit

theorem own5 {w : World} {base e size n m : Nat} {v : Value} {xs : List Value} (h : w.ownsRow base e size v m xs) (hn : v.ownBlock ≠ some n) (x0 x1 x2 x3 x4 : Value) :
    (((((w.setCell ⟨n, 0, none⟩ x0).setCell ⟨n, 1, none⟩ x1).setCell ⟨n, 2, none⟩ x2).setCell ⟨n, 3, none⟩ x3).setCell ⟨n, 4, none⟩ x4).ownsRow base e size v m xs :=
  ownsRow_setCell_other (ownsRow_setCell_other (ownsRow_setCell_other (ownsRow_setCell_other (ownsRow_setCell_other h (a := ⟨n, 0, none⟩) hn _) (a := ⟨n, 1, none⟩) hn _) (a := ⟨n, 2, none⟩) hn _) (a := ⟨n, 3, none⟩) hn _) (a := ⟨n, 4, none⟩) hn _
theorem size5 (w : World) (n : Nat) (x0 x1 x2 x3 x4 : Value) : (((((w.setCell ⟨n, 0, none⟩ x0).setCell ⟨n, 1, none⟩ x1).setCell ⟨n, 2, none⟩ x2).setCell ⟨n, 3, none⟩ x3).setCell ⟨n, 4, none⟩ x4).heap.size = w.heap.size := by simp [World.setCell]

theorem size_alloc1 (w : World) (o : Obj) : (w.alloc o).heap.size = w.heap.size + 1 := by simp
theorem heap_alloc_at (w : World) (o : Obj) (n : Nat) (h : w.heap.size = n) : (w.alloc o).heap[n]? = some o := by rw [← h]; exact heap_alloc_new w o
theorem nameG_no (b : Nat → Int) (n k : Nat) : nameG b n k ≠ .noByte := by unfold nameG; split <;> simp
theorem textG_no (b : Nat → Int) (n k : Nat) : textG b n k ≠ .noByte := by rw [textG_R]; cases textF b n (k + 1) [] <;> simp [textR]
theorem rangeG_no (b : Nat → Int) (n k : Nat) : rangeG b n k ≠ .noByte := by unfold rangeG; split <;> simp

/-- Which of the document's functions reads the token at a place. -/
theorem reads_at (s : ByteArray) (a : Nat) (hs : s.size ≤ 65536) (ha : a < s.size) :
    (letB (PlainAid.bt s a) = true ∧ tokF (PlainAid.bt s) s.size a ≠ .noByte ∧ ∀ w, Calls Try.prog 29 #[.string s, .int .i64 (a : Int)] w (GotEnd w (tokF (PlainAid.bt s) s.size a))) ∨
    (letB (PlainAid.bt s a) = false ∧ (PlainAid.bt s a == 34) = true ∧ tokF (PlainAid.bt s) s.size a ≠ .noByte ∧ ∀ w, Calls Try.prog 30 #[.string s, .int .i64 (a : Int)] w (GotEnd w (tokF (PlainAid.bt s) s.size a))) ∨
    (letB (PlainAid.bt s a) = false ∧ (PlainAid.bt s a == 34) = false ∧ (PlainAid.bt s a == 39) = true ∧ tokF (PlainAid.bt s) s.size a ≠ .noByte ∧ ∀ w, Calls Try.prog 31 #[.string s, .int .i64 (a : Int)] w (GotEnd w (tokF (PlainAid.bt s) s.size a))) ∨
    (letB (PlainAid.bt s a) = false ∧ (PlainAid.bt s a == 34) = false ∧ (PlainAid.bt s a == 39) = false ∧ ∃ m : Nat, markF (PlainAid.bt s a) = (m : Int) ∧ 0 < m ∧ tokF (PlainAid.bt s) s.size a = .tok ⟨m, a, ⟨#[]⟩, 0, 0⟩ (a + 1)) ∨
    (letB (PlainAid.bt s a) = false ∧ (PlainAid.bt s a == 34) = false ∧ (PlainAid.bt s a == 39) = false ∧ markF (PlainAid.bt s a) = 0 ∧ tokF (PlainAid.bt s) s.size a = .noByte) := by
  unfold tokF
  by_cases h1 : letB (PlainAid.bt s a) = true
  · refine Or.inl ⟨h1, ?_, ?_⟩
    · rw [if_pos h1]; exact nameG_no _ _ _
    · rw [if_pos h1]; exact fun w => named_any s a w hs ha
  refine Or.inr ?_
  rw [if_neg h1]
  have h1' := Bool.eq_false_iff.2 h1
  by_cases h2 : PlainAid.bt s a = 34
  · refine Or.inl ⟨h1', by simpa using h2, ?_, ?_⟩
    · rw [if_pos h2]; exact textG_no _ _ _
    · rw [if_pos h2]; exact fun w => quoted_any s a w hs ha
  refine Or.inr ?_
  rw [if_neg h2]
  by_cases h3 : PlainAid.bt s a = 39
  · refine Or.inl ⟨h1', by simpa using h2, by simpa using h3, ?_, ?_⟩
    · rw [if_pos h3]; exact rangeG_no _ _ _
    · rw [if_pos h3]; exact fun w => ranged_any s a w hs ha h3
  refine Or.inr ?_
  rw [if_neg h3]
  have h0 : 0 ≤ markF (PlainAid.bt s a) := by
    unfold markF; repeat' split
    all_goals omega
  by_cases h4 : 0 < markF (PlainAid.bt s a)
  · refine Or.inl ⟨h1', by simpa using h2, by simpa using h3, (markF (PlainAid.bt s a)).toNat, by omega, by omega, if_pos h4⟩
  · exact Or.inr ⟨h1', by simpa using h2, by simpa using h3, by omega, if_neg h4⟩

set_option maxHeartbeats 8000000 in
theorem rlex_any (s : ByteArray) (w : World) (hs0 : s.size ≤ maxLen) : Calls Try.prog 12 #[.string s] w (LexEnd w (lexT s)) := by
  unfold maxLen at hs0
  by_cases hs : s.size ≤ 65536
  · have E : lexT s = lexK (PlainAid.bt s) s.size 0 := if_neg (by omega)
    rw [E]
    obtain ⟨R, hR0⟩ : ∃ R, R = lexK (PlainAid.bt s) s.size 0 := ⟨_, rfl⟩
    rw [← hR0]
    have HR0 : Hid (R = lexA (PlainAid.bt s) s.size (skp (PlainAid.bt s) s.size false 0)) := by show _ = _; rw [hR0, lexK_eq _ _ _ (Nat.zero_le _)]
    have hk0 := skp_le (PlainAid.bt s) s.size false 0 (Nat.zero_le _)
    have hb := PlainAid.get_bt s
    obtain ⟨i, hi0, hz0, hz1, hz2⟩ := info_parts Try.infoTok
    have HI : Hid (Try.prog.info? 49 = some i ∧ i.zero = some (.agg #[.int .i64 0, .int .i64 0, .string ⟨#[]⟩, .int .i64 0, .int .i64 0]) ∧ i.size = 5 ∧ i.bytes = 48) := ⟨hi0, hz0, hz1, hz2⟩
    have SK0 : ∀ w, Calls Try.prog 27 #[.string s, .int .i64 0] w fun e w' => e = .returned (.int .i64 ((skp (PlainAid.bt s) s.size false 0 : Nat) : Int)) ∧ w = w' := fun w => skip_any s 0 w hs (Nat.zero_le _)
    clear hR0 E hi0 hz0 hz1 hz2
    go_enter Try.func12, Try.ntmps12
    go_wp2_with (go_at_call 27; refine (SK0 _).mono ?_; rintro e w1 ⟨rfl, rfl⟩)
    go_loopw [5, 6] (fun o x wr => ∃ (a : Nat) (ts : List Tok), a ≤ s.size ∧ x = .int .i64 a ∧ ts.length ≤ a ∧ (∃ po co, o = .slice po ts.length co) ∧ wr.ownsRow w.heap.size 49 5 o ts.length (toksV ts) ∧ Below w.heap.size w wr ∧ R = Res.pre ts (lexA (PlainAid.bt s) s.size a)) (fun _ x _ => s.size - (intOf x).toNat)
    case atStart => exact ⟨_, [], hk0, rfl, Nat.zero_le _, ⟨none, 0, rfl⟩, World.ownsRow_nil _ _ _ _, Below.refl _ _, HR0.out.trans (Res.pre_nil _).symm⟩
    case round =>
      obtain ⟨a, ts, ha, rfl, hts, ⟨po, co, rfl⟩, hown, hB, hra⟩ := hrel
      have HA : Hid (R = Res.pre ts (lexA (PlainAid.bt s) s.size a)) := hra
      have OW : Hid (wr.ownsRow w.heap.size 49 5 (.slice po ts.length co) ts.length (toksV ts)) := hown
      have BB : Hid (Below w.heap.size w wr) := hB
      have hsz : w.heap.size ≤ wr.heap.size := hB.size
      have hne : (Value.slice po ts.length co).ownBlock ≠ some wr.heap.size := fun e => by have := (hown.lt _ e).2; omega
      have u0 := PlainAid.bt_nonneg s a
      have u1 := PlainAid.bt_le s a
      clear hown hB hra hk0
      by_cases hlt : a < s.size
      · have EA : lexA (PlainAid.bt s) s.size a = match tokF (PlainAid.bt s) s.size a with
          | .ok (t, to) => Res.cons t (lexK (PlainAid.bt s) s.size to)
          | .error true => .error (a, 201)
          | .error false => .error (a, 200) := by unfold lexA; rw [if_neg (by omega)]; rcases tokF (PlainAid.bt s) s.size a with (_ | _) | ⟨t, to⟩ <;> rfl
        have TO := fun t to => @tokF_to (PlainAid.bt s) s.size a t to hlt
        have MX : Hid (ts.length + 1 ≤ maxLen) := by show _ ≤ _; unfold maxLen; omega
        have BY : Hid ((ts.length + 1) * 48 ≤ 140737488355328) := by show _ ≤ _; omega
        have SKT : ∀ to : Nat, to ≤ s.size → ∀ w, Calls Try.prog 27 #[.string s, .int .i64 (to : Int)] w fun e w' => e = .returned (.int .i64 ((skp (PlainAid.bt s) s.size false to : Nat) : Int)) ∧ w = w' := fun to h w => skip_any s to w hs h
        rcases reads_at s a hs hlt with ⟨c1, hnb, CALL⟩ | ⟨c1, c2, hnb, CALL⟩ | ⟨c1, c2, c3, hnb, CALL⟩ | ⟨c1, c2, c3, m, hm, hm0, hg⟩ | ⟨c1, c2, c3, hm, hg⟩
        case inr.inr.inr.inr =>
          rw [hg] at EA
          have RR : Hid (R = .error (a, 200)) := by show _ = _; rw [HA.out, EA]; rfl
          clear EA TO SKT hg
          go_wp2_with (first | (go_at_call 28; refine (letter_any _ _ u0 u1).mono ?_; rintro e w1 ⟨rfl, rfl⟩) | (go_at_call 32; refine (mark_any _ _).mono ?_; rintro e w1 ⟨rfl, rfl⟩))
          refine bodyPost_ret (v := .tuple #[.slice none 0 0, .int .i64 (a : Int), .int .i64 200]) (by simp [results, Try.results12, go_sem]) rfl ?_
          rw [RR.out]
          exact ⟨_, rfl, World.ownsRow_nil _ _ _ _, BB.out.alloc hsz _⟩
        case inr.inr.inr.inl =>
          rw [hg] at EA
          have q2 : a + 1 ≤ s.size := hlt
          have KE := lexK_eq (PlainAid.bt s) s.size (a + 1) q2
          have RR : Hid (R = Res.pre (ts ++ [⟨m, a, ⟨#[]⟩, 0, 0⟩]) (lexA (PlainAid.bt s) s.size (skp (PlainAid.bt s) s.size false (a + 1)))) := by
            show _ = _
            rw [HA.out, EA, ← KE]
            exact Res.pre_cons _ _ _
          have SK : ∀ w, Calls Try.prog 27 #[.string s, .int .i64 ((a : Int) + 1)] w fun e w' => e = .returned (.int .i64 ((skp (PlainAid.bt s) s.size false (a + 1) : Nat) : Int)) ∧ w = w' := SKT (a + 1) q2
          have k1 := skp_ge (PlainAid.bt s) s.size false (a + 1)
          have k2 := skp_le (PlainAid.bt s) s.size false (a + 1) q2
          have MK : ∀ w, Calls Try.prog 32 #[.int .u8 (PlainAid.bt s a)] w fun e w' => e = .returned (.int .i64 (m : Int)) ∧ w = w' := fun w => by rw [← hm]; exact mark_any _ _
          have ONE : Hid (∀ u, u ∈ [Value.int .i64 (m : Int), .int .i64 (a : Int), .string ⟨#[]⟩, .int .i64 0, .int .i64 0] → u.oneCell' = true) := by show ∀ u, _ → _; simp [Value.oneCell']
          generalize skp (PlainAid.bt s) s.size false (a + 1) = z at RR SK k1 k2
          clear EA TO SKT hg KE hm
          go_wp2_with (first | (go_at_call 28; refine (letter_any _ _ u0 u1).mono ?_; rintro e w1 ⟨rfl, rfl⟩) | (go_at_call 32; refine (MK _).mono ?_; rintro e w1 ⟨rfl, rfl⟩) | (at_builtin; refine wpList_append_own _ rfl _ _ 36 rfl w.heap.size 49 i (.agg #[.int .i64 0, .int .i64 0, .string ⟨#[]⟩, .int .i64 0, .int .i64 0]) 5 48 Try.underlying36 HI.out.1 HI.out.2.1 HI.out.2.2.1 HI.out.2.2.2 rfl (by decide) _ _ _ rfl ((OW.out.alloc _).alloc _) ⟨wr.heap.size + 1, 0, none⟩ 1 1 [.int .i64 (m : Int), .int .i64 (a : Int), .string ⟨#[]⟩, .int .i64 0, .int .i64 0] rfl rfl (World.news_of_block (cs := #[.int .i64 (m : Int), .int .i64 (a : Int), .string ⟨#[]⟩, .int .i64 0, .int .i64 0]) (t := 49) (fr := (0, 0)) (heap_alloc_at _ _ _ (size_alloc1 _ _))) ONE.out MX.out BY.out (Nat.le_trans hsz (Nat.le_trans (le_alloc _ _) (le_alloc _ _))) ?_))
          intro v' w3 hown' hgrow hnil
          clear hnil
          obtain ⟨po', co', hv'⟩ := row_slice hown'
          subst hv'
          have OW3 : Hid (w3.ownsRow w.heap.size 49 5 (.slice po' (ts ++ [(⟨m, a, ⟨#[]⟩, 0, 0⟩ : Tok)]).length co') (ts ++ [(⟨m, a, ⟨#[]⟩, 0, 0⟩ : Tok)]).length (toksV (ts ++ [(⟨m, a, ⟨#[]⟩, 0, 0⟩ : Tok)]))) := by
            show w3.ownsRow _ _ _ _ _ _
            rw [toksV_append, List.length_append]; exact hown'
          have BB3 : Hid (Below w.heap.size w w3) := ((BB.out.alloc hsz _).alloc (Nat.le_trans hsz (le_alloc _ _)) _).grown hgrow (Nat.le_trans hsz (Nat.le_trans (le_alloc _ _) (le_alloc _ _))) (fun x hx => ((OW.out.alloc (.cells #[] 0)).lt x hx).1)
          clear hown' hgrow
          go_wp2_with (go_at_call 27; refine (SK _).mono ?_; rintro e w4 ⟨rfl, rfl⟩)
          go_roundw
          case rel => exact ⟨z, _, k2, rfl, by simp; omega, ⟨po', co', by simp⟩, by have := OW3.out; simpa using this, BB3.out, RR.out⟩
          case measure => simp [intOf]; omega
        all_goals
          rcases hg : tokF (PlainAid.bt s) s.size a with (_ | _) | ⟨t, to⟩
          · exact absurd hg hnb
          · rw [hg] at EA CALL
            have RR : Hid (R = .error (a, 201)) := by show _ = _; rw [HA.out, EA]; rfl
            clear EA TO SKT hg hnb
            go_wp2_with (first | (go_at_call 28; refine (letter_any _ _ u0 u1).mono ?_; rintro e w1 ⟨rfl, rfl⟩) | (go_at_call 29; refine (CALL _).mono ?_; rintro e w2 ⟨he, hb2⟩; simp only [gotT, gotP, tokV] at he; subst he; have BB2 : Hid (Below w.heap.size w w2) := (BB.out.alloc hsz _).trans (hb2.mono (Nat.le_trans hsz (le_alloc _ _))); obtain ⟨⟨y0, y1, y2, y3, y4, d0, d1, d2, d3, d4⟩, df⟩ := (T5.new wr _ _ _ _ _ _).keep hb2; have f0 := df 0; have f1 := df 1; have f2 := df 2; have f3 := df 3; have f4 := df 4; clear hb2 df) | (go_at_call 30; refine (CALL _).mono ?_; rintro e w2 ⟨he, hb2⟩; simp only [gotT, gotP, tokV] at he; subst he; have BB2 : Hid (Below w.heap.size w w2) := (BB.out.alloc hsz _).trans (hb2.mono (Nat.le_trans hsz (le_alloc _ _))); obtain ⟨⟨y0, y1, y2, y3, y4, d0, d1, d2, d3, d4⟩, df⟩ := (T5.new wr _ _ _ _ _ _).keep hb2; have f0 := df 0; have f1 := df 1; have f2 := df 2; have f3 := df 3; have f4 := df 4; clear hb2 df) | (go_at_call 31; refine (CALL _).mono ?_; rintro e w2 ⟨he, hb2⟩; simp only [gotT, gotP, tokV] at he; subst he; have BB2 : Hid (Below w.heap.size w w2) := (BB.out.alloc hsz _).trans (hb2.mono (Nat.le_trans hsz (le_alloc _ _))); obtain ⟨⟨y0, y1, y2, y3, y4, d0, d1, d2, d3, d4⟩, df⟩ := (T5.new wr _ _ _ _ _ _).keep hb2; have f0 := df 0; have f1 := df 1; have f2 := df 2; have f3 := df 3; have f4 := df 4; clear hb2 df))
            refine bodyPost_ret (v := .tuple #[.slice none 0 0, .int .i64 (a : Int), .int .i64 201]) (by simp [results, Try.results12, go_sem]) rfl ?_
            rw [RR.out]
            exact ⟨_, rfl, World.ownsRow_nil _ _ _ _, bput5 BB2.out hsz _ _ _ _ _⟩
          · rw [hg] at EA CALL
            obtain ⟨q1, q2⟩ := TO t to hg
            have KE := lexK_eq (PlainAid.bt s) s.size to q2
            have RR : Hid (R = Res.pre (ts ++ [t]) (lexA (PlainAid.bt s) s.size (skp (PlainAid.bt s) s.size false to))) := by
              show _ = _
              rw [HA.out, EA, ← KE]
              exact Res.pre_cons _ _ _
            have SK := SKT to q2
            have k1 := skp_ge (PlainAid.bt s) s.size false to
            have k2 := skp_le (PlainAid.bt s) s.size false to q2
            have ONE : Hid (∀ u, u ∈ [Value.int .i64 (t.kind : Int), .int .i64 (t.pl : Int), .string t.text, .int .i64 t.lo, .int .i64 t.hi] → u.oneCell' = true) := by show ∀ u, _ → _; simp [Value.oneCell']
            generalize skp (PlainAid.bt s) s.size false to = z at RR SK k1 k2
            clear EA TO SKT hg hnb KE
            go_wp2_with (first | (go_at_call 28; refine (letter_any _ _ u0 u1).mono ?_; rintro e w1 ⟨rfl, rfl⟩) | (go_at_call 29; refine (CALL _).mono ?_; rintro e w2 ⟨he, hb2⟩; simp only [gotT, gotP, tokV] at he; subst he; have BB2 : Hid (Below w.heap.size w w2) := (BB.out.alloc hsz _).trans (hb2.mono (Nat.le_trans hsz (le_alloc _ _))); obtain ⟨⟨y0, y1, y2, y3, y4, d0, d1, d2, d3, d4⟩, df⟩ := (T5.new wr _ _ _ _ _ _).keep hb2; have f0 := df 0; have f1 := df 1; have f2 := df 2; have f3 := df 3; have f4 := df 4; have OW2 : Hid (w2.ownsRow w.heap.size 49 5 (.slice po ts.length co) ts.length (toksV ts)) := row_keep (OW.out.alloc _) hb2; have hsz2 : w.heap.size ≤ w2.heap.size := BB2.out.size; clear hb2 df) | (go_at_call 30; refine (CALL _).mono ?_; rintro e w2 ⟨he, hb2⟩; simp only [gotT, gotP, tokV] at he; subst he; have BB2 : Hid (Below w.heap.size w w2) := (BB.out.alloc hsz _).trans (hb2.mono (Nat.le_trans hsz (le_alloc _ _))); obtain ⟨⟨y0, y1, y2, y3, y4, d0, d1, d2, d3, d4⟩, df⟩ := (T5.new wr _ _ _ _ _ _).keep hb2; have f0 := df 0; have f1 := df 1; have f2 := df 2; have f3 := df 3; have f4 := df 4; have OW2 : Hid (w2.ownsRow w.heap.size 49 5 (.slice po ts.length co) ts.length (toksV ts)) := row_keep (OW.out.alloc _) hb2; have hsz2 : w.heap.size ≤ w2.heap.size := BB2.out.size; clear hb2 df) | (go_at_call 31; refine (CALL _).mono ?_; rintro e w2 ⟨he, hb2⟩; simp only [gotT, gotP, tokV] at he; subst he; have BB2 : Hid (Below w.heap.size w w2) := (BB.out.alloc hsz _).trans (hb2.mono (Nat.le_trans hsz (le_alloc _ _))); obtain ⟨⟨y0, y1, y2, y3, y4, d0, d1, d2, d3, d4⟩, df⟩ := (T5.new wr _ _ _ _ _ _).keep hb2; have f0 := df 0; have f1 := df 1; have f2 := df 2; have f3 := df 3; have f4 := df 4; have OW2 : Hid (w2.ownsRow w.heap.size 49 5 (.slice po ts.length co) ts.length (toksV ts)) := row_keep (OW.out.alloc _) hb2; have hsz2 : w.heap.size ≤ w2.heap.size := BB2.out.size; clear hb2 df) | (at_builtin; refine wpList_append_own _ rfl _ _ 36 rfl w.heap.size 49 i (.agg #[.int .i64 0, .int .i64 0, .string ⟨#[]⟩, .int .i64 0, .int .i64 0]) 5 48 Try.underlying36 HI.out.1 HI.out.2.1 HI.out.2.2.1 HI.out.2.2.2 rfl (by decide) _ _ _ rfl ((own5 OW2.out hne _ _ _ _ _).alloc _) ⟨w2.heap.size, 0, none⟩ 1 1 [.int .i64 (t.kind : Int), .int .i64 (t.pl : Int), .string t.text, .int .i64 t.lo, .int .i64 t.hi] rfl rfl (World.news_of_block (cs := #[.int .i64 (t.kind : Int), .int .i64 (t.pl : Int), .string t.text, .int .i64 t.lo, .int .i64 t.hi]) (t := 49) (fr := (0, 0)) (heap_alloc_at _ _ _ (size5 _ _ _ _ _ _ _))) ONE.out MX.out BY.out (Nat.le_trans (Nat.le_trans hsz2 (Nat.le_of_eq (size5 _ _ _ _ _ _ _).symm)) (le_alloc _ _)) ?_))
            intro v' w3 hown' hgrow hnil
            clear hnil
            obtain ⟨po', co', hv'⟩ := row_slice hown'
            subst hv'
            have OW3 : Hid (w3.ownsRow w.heap.size 49 5 (.slice po' (ts ++ [t]).length co') (ts ++ [t]).length (toksV (ts ++ [t]))) := by
              show w3.ownsRow _ _ _ _ _ _
              rw [toksV_append, List.length_append]; exact hown'
            have BB3 : Hid (Below w.heap.size w w3) := ((bput5 BB2.out hsz _ _ _ _ _).alloc (Nat.le_trans hsz2 (Nat.le_of_eq (size5 _ _ _ _ _ _ _).symm)) _).grown hgrow (Nat.le_trans (Nat.le_trans hsz2 (Nat.le_of_eq (size5 _ _ _ _ _ _ _).symm)) (le_alloc _ _)) (fun x hx => ((OW2.out.alloc (.cells #[] 0)).lt x hx).1)
            clear hown' hgrow
            go_wp2_with (go_at_call 27; refine (SK _).mono ?_; rintro e w4 ⟨rfl, rfl⟩)
            go_roundw
            case rel => exact ⟨z, ts ++ [t], k2, rfl, by simp; omega, ⟨po', co', by simp⟩, by have := OW3.out; simpa using this, BB3.out, RR.out⟩
            case measure => simp [intOf]; omega
      · obtain rfl : a = s.size := by omega
        have RR : Hid (R = .ok ts) := by show _ = _; rw [HA.out, lexA, if_pos (Nat.le_refl _), Res.pre_ok]
        go_wp2
        refine bodyPost_ret (v := .tuple #[.slice po ts.length co, .int .i64 0, .int .i64 0]) (by simp [results, Try.results12, go_sem]) rfl ?_
        rw [RR.out]
        exact ⟨_, rfl, OW.out, BB.out⟩
  · have E : lexT s = .error (0, 201) := if_pos (by omega)
    rw [E]
    go_enter Try.func12, Try.ntmps12
    go_wp2
    refine bodyPost_ret (v := .tuple #[.slice none 0 0, .int .i64 0, .int .i64 201]) (by simp [results, Try.results12, go_sem]) rfl ?_
    exact ⟨_, rfl, World.ownsRow_nil _ _ _ _, Below.refl _ _⟩
end Go.Proofs.Ytdlpmefdeeokhaa
