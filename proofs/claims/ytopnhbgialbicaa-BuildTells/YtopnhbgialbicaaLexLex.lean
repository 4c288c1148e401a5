/- What the program's Lex hands back. -/
import Derived.Test.YtopnhbgialbicaaLexTokens
namespace Go.Proofs.Ytopnhbgialbicaa
set_option linter.unusedVariables false
open Go.ChangeShapes Go.WideShapes Go.ChangeAt Go.RowKit

theorem Try.infoTok : (Try.prog.info? 85).map (fun i => (i.zero, i.size, i.bytes)) = some (some (.agg #[.int .i64 0, .int .i64 0, .string ⟨#[]⟩, .int .i64 0, .int .i64 0]), 5, 48) := by kernel_rfl

theorem le_alloc (w : World) (o : Obj) : w.heap.size ≤ (w.alloc o).heap.size := by simp
theorem pcsV_at : ∀ (l : List Pc) (k : Nat) (p : Pc), l[k]? = some p → (pcsV l)[k * 3]? = some (.int .i64 (p.kind : Int)) ∧ (pcsV l)[k * 3 + 1]? = some (.int .i64 (p.pl : Int)) ∧ (pcsV l)[k * 3 + 2]? = some (payV p.pay)
  | [], k, p, h => by simp at h
  | q :: l, 0, p, h => by
    obtain rfl : q = p := by simpa using h
    exact ⟨rfl, rfl, rfl⟩
  | q :: l, k + 1, p, h => by
    have := pcsV_at l k p (by simpa using h)
    rw [show (k + 1) * 3 = k * 3 + 1 + 1 + 1 by omega]
    simpa [pcsV, pcV] using this
theorem take_map (l : List Pc) (k : Nat) (p : Pc) (h : l[k]? = some p) : (l.take (k + 1)).map Pc.tok = (l.take k).map Pc.tok ++ [p.tok] := by
  rw [List.take_add_one, h]; simp

set_option maxHeartbeats 4000000 in
theorem tokens_any (l : List Pc) (v : Value) (base : Nat) (w : World) (hv : w.ownsRow base 93 3 v l.length (pcsV l)) (hl : l.length ≤ 65536) (hf : ∀ p, p ∈ l → p.fit) :
    Calls Try.prog 41 #[v] w fun e w' => ∃ v', e = .returned v' ∧ w'.ownsRow w.heap.size 85 5 v' l.length (toksV (l.map Pc.tok)) ∧ Below w.heap.size w w' := by
  obtain ⟨i, hi0, hz0, hz1, hz2⟩ := info_parts Try.infoTok
  obtain ⟨pp, cap, hv0⟩ := row_slice hv
  subst hv0
  have HV : Hid (w.ownsRow base 93 3 (.slice pp l.length cap) l.length (pcsV l)) := hv
  have HI : Hid (Try.prog.info? 85 = some i ∧ i.zero = some (.agg #[.int .i64 0, .int .i64 0, .string ⟨#[]⟩, .int .i64 0, .int .i64 0]) ∧ i.size = 5 ∧ i.bytes = 48) := ⟨hi0, hz0, hz1, hz2⟩
  clear hv hi0 hz0 hz1 hz2
  go_enter Try.func41, Try.ntmps41
  go_wp2
  go_loopw [3, 8] (fun o j wr => ∃ k : Nat, k ≤ l.length ∧ j = .int .i64 k ∧ (∃ po co, o = .slice po k co) ∧ wr.ownsRow w.heap.size 85 5 o k (toksV ((l.take k).map Pc.tok)) ∧ Below w.heap.size w wr) (fun _ j _ => l.length - (intOf j).toNat)
  case atStart => exact ⟨0, Nat.zero_le _, rfl, ⟨none, 0, rfl⟩, World.ownsRow_nil _ _ _ _, Below.refl _ _⟩
  case round =>
    obtain ⟨k, hk, rfl, ⟨po, co, rfl⟩, hown, hB⟩ := hrel
    have HO := hown
    have OW : Hid (wr.ownsRow w.heap.size 85 5 (.slice po k co) k (toksV ((l.take k).map Pc.tok))) := hown
    have BB : Hid (Below w.heap.size w wr) := hB
    have hsz : w.heap.size ≤ wr.heap.size := hB.size
    clear HO hown
    by_cases hlt : k < l.length
    · obtain ⟨p, hp⟩ : ∃ p, l[k]? = some p := ⟨_, List.getElem?_eq_getElem hlt⟩
      have hfit := hf p (List.mem_of_getElem? hp)
      have TM := take_map l k p hp
      have HT : Hid ((l.take (k + 1)).map Pc.tok = (l.take k).map Pc.tok ++ [p.tok]) := TM
      obtain ⟨q0, q1, q2⟩ := pcsV_at l k p hp
      obtain ⟨g, hg⟩ : ∃ g, pp = some ⟨g, 0, none⟩ := by
        obtain ⟨_, ⟨_, h2⟩ | ⟨g, c', cur, h1, h2, h3⟩⟩ := id HV.out
        · omega
        · injection h1 with e1; exact ⟨g, e1⟩
      subst hg
      have hlen : (pcsV l).length = l.length * 3 := pcsV_length l
      have hgl : g < w.heap.size := (HV.out.lt g rfl).2
      have c0 : wr.cell? ⟨g, k * 3, none⟩ = some (.int .i64 (p.kind : Int)) := (hB.cell (p := ⟨g, _, none⟩) hgl).trans ((HV.out.cellAt (k * 3) (by omega)).trans q0)
      have c1 : wr.cell? ⟨g, k * 3 + 1, none⟩ = some (.int .i64 (p.pl : Int)) := (hB.cell (p := ⟨g, _, none⟩) hgl).trans ((HV.out.cellAt (k * 3 + 1) (by omega)).trans q1)
      have c2 : wr.cell? ⟨g, k * 3 + 2, none⟩ = some (payV p.pay) := (hB.cell (p := ⟨g, _, none⟩) hgl).trans ((HV.out.cellAt (k * 3 + 2) (by omega)).trans q2)
      clear q0 q1 q2 hlen hgl TM hp hB hf
      have TK := token_any p hfit
      obtain ⟨t, ht⟩ : ∃ t, t = p.tok := ⟨_, rfl⟩
      rw [← ht] at TK
      have HT' : Hid ((l.take (k + 1)).map Pc.tok = (l.take k).map Pc.tok ++ [t]) := by rw [ht]; exact HT.out
      clear ht HT hfit
      simp only [tokV] at TK
      have ONE : Hid (∀ u, u ∈ [Value.int .i64 (t.kind : Int), .int .i64 (t.pl : Int), .string t.text, .int .i64 t.lo, .int .i64 t.hi] → u.oneCell' = true) := by show ∀ u, _ → _; simp [Value.oneCell']
      have MX : Hid (k + 1 ≤ maxLen) := by show _ ≤ _; unfold maxLen; omega
      have BY : Hid ((k + 1) * 48 ≤ 140737488355328) := by show _ ≤ _; omega
      obtain ⟨kind, pl, pay⟩ := p
      rcases pay with _ | _ | ⟨_, _⟩
      all_goals
        simp only [payV] at c2 TK
        go_wp2_with (first | (go_at_call 47; refine (TK _).mono ?_; rintro e w1 ⟨rfl, hb1⟩; have ow1 := row_keep (OW.out.alloc _) hb1; have OW1 : Hid (w1.ownsRow w.heap.size 85 5 (.slice po k co) k (toksV ((l.take k).map Pc.tok))) := ow1; have bb1 := (BB.out.alloc hsz _).trans (hb1.mono (Nat.le_trans hsz (le_alloc _ _))); have BB1 : Hid (Below w.heap.size w w1) := bb1; have hsz1 : w.heap.size ≤ w1.heap.size := bb1.size; clear hb1 ow1 bb1) | (at_builtin; refine wpList_append_own _ rfl _ _ 81 rfl w.heap.size 85 i (.agg #[.int .i64 0, .int .i64 0, .string ⟨#[]⟩, .int .i64 0, .int .i64 0]) 5 48 Try.underlying81 HI.out.1 HI.out.2.1 HI.out.2.2.1 HI.out.2.2.2 rfl (by decide) _ _ _ rfl (OW1.out.alloc _) ⟨w1.heap.size, 0, none⟩ 1 1 [.int .i64 (t.kind : Int), .int .i64 (t.pl : Int), .string t.text, .int .i64 t.lo, .int .i64 t.hi] rfl rfl (World.news_of_block (cs := #[.int .i64 (t.kind : Int), .int .i64 (t.pl : Int), .string t.text, .int .i64 t.lo, .int .i64 t.hi]) (t := 85) (fr := (0, 0)) (heap_alloc_new w1 _)) ONE.out MX.out BY.out (Nat.le_trans hsz1 (le_alloc _ _)) ?_))
        intro v' w2 hown' hgrow hnil
        clear hnil
        obtain ⟨po', co', hv'⟩ := row_slice hown'
        subst hv'
        have ow2 : w2.ownsRow w.heap.size 85 5 (.slice po' (k + 1) co') (k + 1) (toksV ((l.take (k + 1)).map Pc.tok)) := by
          rw [HT'.out, toksV_append, List.map_take]; exact hown'
        have OW2 : Hid (w2.ownsRow w.heap.size 85 5 (.slice po' (k + 1) co') (k + 1) (toksV ((l.take (k + 1)).map Pc.tok))) := ow2
        have BB2 : Hid (Below w.heap.size w w2) := (BB1.out.alloc hsz1 _).grown hgrow (Nat.le_trans hsz1 (le_alloc _ _)) (fun x hx => ((OW1.out.alloc (.cells #[] 0)).lt x hx).1)
        clear hown' hgrow ow2
        go_wp2
        go_roundw
        case rel => exact ⟨k + 1, by omega, by go_num, ⟨_, _, rfl⟩, OW2.out, BB2.out⟩
        case measure => simp [intOf]; omega
    · obtain rfl : k = l.length := by omega
      go_wp2
      go_ret
      have ho := OW.out
      rw [List.take_length] at ho
      exact ⟨_, rfl, ho, BB.out⟩

def cInt (w : World) (b j : Nat) : Nat := match w.cell? ⟨b, j, none⟩ with
  | some (.int _ z) => z.toNat
  | _ => 0
theorem cInt_of {w : World} {b j k : Nat} (h : w.cell? ⟨b, j, none⟩ = some (.int .i64 (k : Int))) : cInt w b j = k := by unfold cInt; rw [h]; rfl

/-- What Lex hands back: the tokens in a row, a place, an error's number. -/
def lexAns : Res → List Tok × Nat × Nat
  | .ok l => (l, 0, 0)
  | .error (p, e) => ([], p, e)
theorem resume5 {b : Nat → Int} {n nx bg ft : Nat} {rd : List Int} {ps : List Pc} : resume b n ⟨5, nx, bg, rd, ps, ft⟩ = if ft = 0 then .ok (ps.map Pc.tok) else .error (bg, ft) := by
  show Res.pre _ (if ft = 0 then _ else _) = _
  by_cases h : ft = 0
  · rw [if_pos h, if_pos h, Res.pre_ok]
  · rw [if_neg h, if_neg h]; rfl

theorem Rd.new (w : World) (s : ByteArray) (t : TypeId) : Rd w w.heap.size s ⟨0, 0, 0, [], [], 0⟩ (w.alloc (.cells #[.string s, .int .i64 0, .int .i64 0, .int .i64 0, .slice none 0 0, .slice none 0 0, .int .i64 0] t)) := by
  have hc : ∀ j, (w.alloc (.cells #[.string s, .int .i64 0, .int .i64 0, .int .i64 0, .slice none 0 0, .slice none 0 0, .int .i64 0] t)).cell? ⟨w.heap.size, j, none⟩ = _ := fun j => World.cell?_alloc_at _ _ _ _ rfl
  exact ⟨hc 0, hc 1, hc 2, hc 3, ⟨_, hc 4, World.ownsRow_nil _ _ _ _⟩, ⟨_, hc 5, World.ownsRow_nil _ _ _ _⟩, hc 6, fun j => World.frozen?_alloc_at _ _ _ _ rfl, bel1 _ _⟩

theorem rlex {v v' : Value} {a b c d : Int} (h0 : v = v') (h : a = b) (h' : c = d) : Ending.returned (.tuple #[v, .int .i64 a, .int .i64 c]) = .returned (.tuple #[v', .int .i64 b, .int .i64 d]) := by rw [h0, h, h']

/-- What is said of a call of Lex. -/
def LexEnd (w : World) (r : Res) (e : Ending) (w' : World) : Prop :=
  ∃ v, e = .returned (.tuple #[v, .int .i64 ((lexAns r).2.1 : Int), .int .i64 ((lexAns r).2.2 : Int)]) ∧ w'.ownsRow w.heap.size 85 5 v (lexAns r).1.length (toksV (lexAns r).1) ∧ Below w.heap.size w w'

set_option maxHeartbeats 4000000 in
theorem lex_any (s : ByteArray) (w : World) (hs0 : s.size ≤ maxLen) : Calls Try.prog 38 #[.string s] w (LexEnd w (lexT s)) := by
  unfold maxLen at hs0
  by_cases hs : s.size ≤ 65536
  · have E : lexT s = lexK (PlainAid.bt s) s.size 0 := if_neg (by omega)
    rw [E]
    obtain ⟨R, hR0⟩ : ∃ R, R = lexK (PlainAid.bt s) s.size 0 := ⟨_, rfl⟩
    rw [← hR0]
    have HR0 : Hid (R = lexK (PlainAid.bt s) s.size 0) := hR0
    clear hR0 E
    go_enter Try.func38, Try.ntmps38
    go_wp2
    go_loopw [14] (fun _ wr => ∃ m, Rd w w.heap.size s m wr ∧ Good (PlainAid.bt s) s.size m ∧ resume (PlainAid.bt s) s.size m = R) (fun _ wr => mu (PlainAid.bt s) s.size (cInt wr w.heap.size 1) (cInt wr w.heap.size 2))
    case atStart => exact ⟨_, Rd.new w s _, good0 _ _, (resume0 _ _).trans HR0.out.symm⟩
    case round =>
      obtain ⟨m, hR, hG, hres⟩ := hrel
      have HRES : Hid (resume (PlainAid.bt s) s.size m = R) := hres
      have HG : Hid (Good (PlainAid.bt s) s.size m) := hG
      have HRD : Hid (Rd w w.heap.size s m wr) := hR
      have q1 := hR.c1
      by_cases h5 : m.st = 5
      · obtain ⟨st, nx, bg, rd, ps, ft⟩ := m
        obtain rfl : st = 5 := h5
        have q1' : wr.cell? ⟨w.heap.size, 1, none⟩ = some (.int .i64 5) := q1
        obtain ⟨r0, r1, r2, r3, r6⟩ := hR.all
        obtain ⟨v5, r5, o5⟩ := hR.c5
        have O5 : Hid (wr.ownsRow (w.heap.size + 1) 93 3 v5 ps.length (pcsV ps)) := o5
        have hB : Hid (Below w.heap.size w wr) := hR.bl
        have hsz : w.heap.size ≤ wr.heap.size := hR.bl.size
        by_cases hf : ft = 0
        · subst hf
          have r6' : wr.cell? ⟨w.heap.size, 6, none⟩ = some (.int .i64 0) := r6
          have hres2 : Hid (R = .ok (ps.map Pc.tok)) := by rw [← HRES.out, resume5]; exact if_pos rfl
          have TK := tokens_any ps v5 (w.heap.size + 1) wr o5 (Nat.le_trans hG.pl (Nat.le_trans hG.nx hs)) hG.ps
          clear hR hG hres o5 q1 r0 r1 r2 r3 r6
          go_wp2_with (go_at_call 41; refine TK.mono ?_; rintro e w1 ⟨v', rfl, ow, hb⟩; obtain ⟨p', c', hv'⟩ := row_slice ow; subst hv')
          refine bodyPost_ret (v := .tuple #[.slice p' ps.length c', .int .i64 0, .int .i64 0]) (by simp [results, Try.results38, go_sem]) rfl ?_
          rw [hres2.out]
          exact ⟨_, rfl, by show w1.ownsRow _ _ _ _ (ps.map Pc.tok).length _; rw [List.length_map]; exact row_mono ow hsz, hB.out.trans (hb.mono hsz)⟩
        · have hres2 : Hid (R = .error (bg, ft)) := by rw [← HRES.out, resume5]; exact if_neg hf
          have hf' : ((ft : Int) != 0) = true := by simp; omega
          clear hR hG hres o5 q1 r0 r1 r2
          go_wp2
          go_quiet (fail)
          go_wp2
          refine bodyPost_ret (v := .tuple #[.slice none 0 0, .int .i64 (bg : Int), .int .i64 (ft : Int)]) (by simp [results, Try.results38, go_sem]) rfl ?_
          rw [hres2.out]
          exact ⟨_, rfl, World.ownsRow_nil _ _ _ _, ⟨hB.out.os, hB.out.tape, hB.out.output, hB.out.size, hB.out.block⟩⟩
      · have h5' : ((m.st : Int) != 5) = true := by simp; omega
        have ST := step_any hR hG h5 hs
        clear hR hG hres
        go_wp2_with (go_at_call 40; refine ST.mono ?_; rintro e w1 ⟨rfl, m', hR', hA⟩)
        go_roundw
        case rel => exact ⟨m', hR', hA.2.2, hA.1.trans HRES.out⟩
        case measure =>
          rw [cInt_of HRD.out.c1, cInt_of HRD.out.c2, cInt_of hR'.c1, cInt_of hR'.c2]
          exact hA.2.1
  · have E : lexT s = .error (0, 201) := if_pos (by omega)
    rw [E]
    go_enter Try.func38, Try.ntmps38
    go_wp2
    refine bodyPost_ret (v := .tuple #[.slice none 0 0, .int .i64 0, .int .i64 201]) (by simp [results, Try.results38, go_sem]) rfl ?_
    exact ⟨_, rfl, World.ownsRow_nil _ _ _ _, Below.refl _ _⟩
end Go.Proofs.Ytopnhbgialbicaa
