/- The reader's proof; Get. -/
import Derived.Test.YtgeajdfajfdjcaaPkO
import Derived.Laws.Closers25b
namespace Go.Proofs.Ytgeajdfajfdjcaa
set_option linter.unusedVariables false
set_option linter.unusedSimpArgs false
open Go.ChangeShapes Go.WideShapes Go.ChangeAt Go.RowKit

theorem Try.infoNdP : (Try.prog.info? 46).map (fun i => (i.zero, i.size, i.bytes)) = some (some (.agg #[.bool false, .int .i64 0, .int .i64 0, .int .i64 0, .int .i64 0, .int .i64 0, .int .i64 0, .int .i64 0, .int .i64 0, .slice none 0 0]), 10, 96) := by kernel_rfl
abbrev ndA (n : Nd) (p : Option Addr) (c : Nat) : Array Value := #[.bool n.sign, .int .i64 n.kind, .int .i64 n.name, .int .i64 n.rule, .int .i64 n.conj, .int .i64 n.pos, .int .i64 n.i, .int .i64 n.j, .int .i64 n.rank, .slice p n.picks.length c]
theorem as_nd (b : Bool) (x1 x2 x3 x4 x5 x6 x7 x8 : Int) (p : Option Addr) (n cp : Nat) (w : World) : (Instr.typeAssert (.iface 46 (.agg #[.bool b, .int .i64 x1, .int .i64 x2, .int .i64 x3, .int .i64 x4, .int .i64 x5, .int .i64 x6, .int .i64 x7, .int .i64 x8, .slice p n cp])) 20 46 true).run Try.prog w = .ok (.tuple #[.agg #[.bool b, .int .i64 x1, .int .i64 x2, .int .i64 x3, .int .i64 x4, .int .i64 x5, .int .i64 x6, .int .i64 x7, .int .i64 x8, .slice p n cp], .bool true]) w := by kernel_rfl
theorem as_ndn (w : World) : (Instr.typeAssert .nilIface 20 46 true).run Try.prog w = .ok (.tuple #[.agg #[.bool false, .int .i64 0, .int .i64 0, .int .i64 0, .int .i64 0, .int .i64 0, .int .i64 0, .int .i64 0, .int .i64 0, .slice none 0 0], .bool false]) w := by kernel_rfl
structure CtL (W : World) (rb : Nat) (ro : Int) (p : Option Addr) (k cp : Nat) (ns : List Nd) (us : List Value) (F : Nat → Prop) (r : List UInt8) (w : World) : Prop where
  h0 : w.heap[W.heap.size]? = some (.cells #[.int .i64 0, .slice none 0 0] 24)
  hn : w.heap[W.heap.size + 1]? = some (.cells #[.int .i64 ro, .slice p k cp] 24)
  own : w.ownsRow W.heap.size 46 10 (.slice p k cp) k (ndsV ns us)
  nin : NdsIn w F ns us
  fl : ∀ b, F b → W.heap.size + 1 < b ∧ b < w.heap.size
  no : ∀ b, (Value.slice p k cp).ownBlock = some b → ¬ F b
  rd : RdAt w rb r
  gb : Gb rb W w
  hl : r.length ≤ 1048576
theorem row_ndC {w : World} {B n pb : Nat} {v : Value} {xs : List Value} {arr : Array Value} (h : w.ownsRow B 46 10 v n xs) (hr : w.heap[pb]? = some (.cells arr 24)) : v.ownBlock ≠ some pb := own_neL h hr (by decide)
theorem row_ndR {w : World} {B n rb : Nat} {v : Value} {xs : List Value} {l : List UInt8} (h : w.ownsRow B 46 10 v n xs) (hr : RdAt w rb l) : v.ownBlock ≠ some rb := own_neL h hr (by decide)
theorem CtL.push {W w w2 : World} {rb : Nat} {ro : Int} {p : Option Addr} {k cp : Nat} {ns : List Nd} {us : List Value} {F : Nat → Prop} {r r2 : List UInt8} (h : CtL W rb ro p k cp ns us F r w) (hrb : rb < W.heap.size) (x : Nd) (pv : Option Addr) (cv : Nat) (hg : Gb rb w w2) (hr : RdAt w2 rb r2) (hz : IsPks w2 (fun b => w.heap.size ≤ b) (.slice pv x.picks.length cv) x.picks) (hl : r2.length ≤ 1048576) (hk : k ≤ 65535) :
    ∃ p2 cp2 w4, (Builtin.append_ #[22, 22] 22 #[.slice p k cp, .slice (some ⟨w2.heap.size + 1, 0, none⟩) 1 1]).run Try.prog ((w2.alloc (.cells (ndA x pv cv) 46)).alloc (.cells (ndA x pv cv) 46)) = .ok (.slice p2 (k + 1) cp2) w4 ∧ w4.cell? ⟨W.heap.size + 1, 1, none⟩ = some (.slice p k cp) ∧ w4.frozen? ⟨W.heap.size + 1, 1, none⟩ = false ∧ Hid (∃ us2 F2, CtL W rb ro p2 (k + 1) cp2 (ns ++ [x]) us2 F2 r2 (w4.setCell ⟨W.heap.size + 1, 1, none⟩ (.slice p2 (k + 1) cp2))) ∧ w2.cell? ⟨W.heap.size + 1, 1, none⟩ = some (.slice p k cp) := by
  obtain ⟨i, hi, hzr, hsz, hby⟩ := info_parts Try.infoNdP
  obtain ⟨A, hA⟩ : ∃ A, A = Obj.cells (ndA x pv cv) 46 := ⟨_, rfl⟩
  have hn1 := heap_lt h.hn
  have hne0 := row_ndC h.own h.hn
  have hnr0 := row_ndR h.own h.rd
  have own2 : w2.ownsRow W.heap.size 46 10 (.slice p k cp) k (ndsV ns us) := h.own.kept hg (Or.inr hnr0)
  have hn2 := (hg.blk hn1 (by omega)).trans h.hn
  have h02 := (hg.blk (heap_lt h.h0) (by omega)).trans h.h0
  have nin2 : NdsIn w2 F ns us := h.nin.keep (hg.stay (fun b hb => ⟨(h.fl b hb).2, by have := (h.fl b hb).1; omega⟩)) (fun _ hb => hb)
  rw [← hA]
  obtain ⟨w3, hw3⟩ : ∃ w3, w3 = (w2.alloc A).alloc A := ⟨_, rfl⟩
  have b3 : Below w2.heap.size w2 w3 := by rw [hw3]; exact (bel1 _ _).alloc (by simp) _
  have s3 : w3.heap.size = w2.heap.size + 2 := by rw [hw3]; simp
  have n3 : w3.heap[w2.heap.size + 1]? = some A := by
    rw [hw3]
    have := heap_alloc_new (w2.alloc A) A
    rw [show (w2.alloc A).heap.size = w2.heap.size + 1 by simp] at this
    exact this
  rw [← hw3]
  have own3 := row_keep own2 b3
  have gb3 : Gb rb W w3 := h.gb.trans (hg.trans (Gb.below b3))
  obtain ⟨p2, cp2, w4, h1, h2, h3, h4⟩ := run_append_one (P := Try.prog) W.heap.size 22 46 i _ 10 96 Try.underlying22 hi hzr hsz hby rfl (by omega) _ k (ndsV ns us) own3 (w2.heap.size + 1) (ndA x pv cv).toList (fun j y hy => by rw [hA] at n3; exact (Lib.cell_of_heap n3 j).trans (by simpa using hy)) rfl (by intro y hy; simp at hy; rcases hy with rfl | rfl | rfl | rfl | rfl | rfl | rfl | rfl | rfl | rfl <;> rfl) (by unfold maxLen; omega) (by omega) gb3.size
  have hn3 := (b3.block _ (heap_lt hn2)).trans hn2
  have h03 := (b3.block _ (heap_lt h02)).trans h02
  have r3 : RdAt w3 rb r2 := (b3.block _ (heap_lt hr)).trans hr
  have hne3 := row_ndC own3 hn3
  have hne03 := row_ndC own3 h03
  have hnr3 := row_ndR own3 r3
  have hn4 := (h3.block _ (heap_lt hn3) (Ne.symm hne3)).trans hn3
  have h04 := (h3.block _ (heap_lt h03) (Ne.symm hne03)).trans h03
  have r4 : RdAt w4 rb r2 := (h3.block _ (heap_lt r3) (Ne.symm hnr3)).trans r3
  have hne4 := row_ndC h2 hn4
  have g4 : Gb rb W w4 := ⟨h3.os.trans gb3.os, h3.tape.trans gb3.tape, h3.output.trans gb3.output, Nat.le_trans gb3.size h3.size, fun i hi hne2 => (h3.block i (Nat.lt_of_lt_of_le hi gb3.size) (fun e => by have := (own3.lt i e.symm).1; omega)).trans (gb3.block i hi hne2)⟩
  have hws := h.gb.size
  have hw2s := hg.size
  have z4 : IsPks w4 (fun b => w.heap.size ≤ b ∧ b < w2.heap.size) (.slice pv x.picks.length cv) x.picks := by
    have z2 : IsPks w2 (fun b => w.heap.size ≤ b ∧ b < w2.heap.size) (.slice pv x.picks.length cv) x.picks := IsPks.low hz (fun b h1 h2 => ⟨h1, h2⟩)
    refine IsPks.keep (IsPks.keep z2 (stay_below b3 (fun b hb => hb.2)) (fun _ hb => hb)) ⟨h3.size, fun b hb => h3.block b (by omega) (fun e => ?_)⟩ (fun _ hb => hb)
    have := (h.own.lt b e.symm).2
    omega
  have nin4 : NdsIn w4 F ns us := by
    refine (nin2.keep (stay_below b3 (fun b hb => by have := (h.fl b hb).2; omega)) (fun _ hb => hb)).keep ⟨h3.size, fun b hb => h3.block b (by have := (h.fl b hb).2; omega) (fun e => h.no b e.symm hb)⟩ (fun _ hb => hb)
  have F2z : ∀ b, (F b ∨ (w.heap.size ≤ b ∧ b < w2.heap.size)) → W.heap.size + 1 < b ∧ b < w4.heap.size := fun b hb => by
    have := h3.size
    rcases hb with hb | hb
    · have := h.fl b hb; omega
    · exact ⟨by omega, by omega⟩
  refine ⟨p2, cp2, w4, h1, Lib.cell_of_heap hn4 1, Lib.frozen_of_heap hn4 1, ?_, Lib.cell_of_heap hn2 1⟩
  have hin := in_snoc (P := fun y u => IsPks w4 (fun b => F b ∨ (w.heap.size ≤ b ∧ b < w2.heap.size)) u y.picks) nin4.1 (fun j y u e1 e2 => IsPks.low (nin4.2 j y u e1 e2) (fun b hb _ => Or.inl hb)) (a := x) (v := .slice pv x.picks.length cv) (IsPks.low z4 (fun b hb _ => Or.inr hb))
  have hst : Stay (fun b => F b ∨ (w.heap.size ≤ b ∧ b < w2.heap.size)) w4 (w4.setCell ⟨W.heap.size + 1, 1, none⟩ (.slice p2 (k + 1) cp2)) := ⟨by simp [World.setCell], fun b hb => Go.Deep.blk_setCell_other _ ⟨W.heap.size + 1, 1, none⟩ _ _ (by have := (F2z b hb).1; show b ≠ W.heap.size + 1; omega)⟩
  refine ⟨us ++ [.slice pv x.picks.length cv], fun b => F b ∨ (w.heap.size ≤ b ∧ b < w2.heap.size), ?_, ?_, ?_, ?_, ?_, ?_, ?_, ?_, hl⟩
  · exact (Go.Deep.blk_setCell_other _ ⟨W.heap.size + 1, 1, none⟩ _ _ (by show W.heap.size ≠ W.heap.size + 1; omega)).trans h04
  · exact heap_setCell_is hn4 _
  · rw [ndsV_app _ _ _ _ h.nin.1]
    exact ownsRow_setP h2 hne4 _
  · exact NdsIn.keep ⟨hin.1, hin.2⟩ hst (fun _ hb => hb)
  · intro b hb
    have := F2z b hb
    simpa [World.setCell] using this
  · intro b hb hF
    rcases h4 with e | e
    · rw [e] at hb
      rcases hF with hF | hF
      · exact h.no b hb hF
      · have := (h.own.lt b hb).2; omega
    · rw [e] at hb
      have hb : w3.heap.size = b := Option.some.inj hb
      rcases hF with hF | hF
      · have := (h.fl b hF).2; omega
      · omega
  · exact (Go.Deep.blk_setCell_other _ ⟨W.heap.size + 1, 1, none⟩ _ _ (by show rb ≠ W.heap.size + 1; omega)).trans r4
  · exact ⟨g4.os, g4.tape, g4.output, by have := g4.size; simpa [World.setCell] using this, fun i hi hne3 => (Go.Deep.blk_setCell_other _ ⟨W.heap.size + 1, 1, none⟩ _ _ (by show i ≠ W.heap.size + 1; omega)).trans (g4.block i hi hne3)⟩
theorem results_cell_tmpP {fn : Func} {p q : Tmp} {ty : TypeId} (h : fn.results = #[.cell p ty, .tmp q]) (tmps : Array Value) (P : Program) (w : World) :
    (results fn tmps).run P w = ((asAddr (tmps.getD p undef)).run P w).andThen fun a w₁ => ((loadVar ty a).run P w₁).andThen fun v w₂ => .ok (.tuple #[v, tmps.getD q undef]) w₂ := by
  simp only [results, h]
  simp [Sem.run_bind, Result.andThen]
theorem Gb.set {rb : Nat} {W w : World} (h : Gb rb W w) {b : Nat} (hb : W.heap.size ≤ b) (k : Nat) (x : Value) : Gb rb W (w.setCell ⟨b, k, none⟩ x) :=
  ⟨h.os, h.tape, h.output, by have := h.size; simpa [World.setCell] using this, fun i hi hne => (Go.Deep.blk_setCell_other _ ⟨b, k, none⟩ _ _ (by show i ≠ b; omega)).trans (h.block i hi hne)⟩
/-- What reading a proof leaves. -/
def CertEnd (W : World) (rb : Nat) (l : List UInt8) (e : Ending) (w' : World) : Prop := Hid (Gb rb W w') ∧ (match ctR l with
  | some c => ∃ pv cv, e = .returned (.tuple #[.agg #[.int .i64 c.root, .slice pv c.nodes.length cv], .bool true]) ∧ Hid (IsNds w' (fun b => W.heap.size ≤ b) (.slice pv c.nodes.length cv) c.nodes)
  | none => e = .returned (.tuple #[.agg #[.int .i64 0, .slice none 0 0], .bool false]))
set_option maxHeartbeats 16000000 in
set_option maxRecDepth 100000 in
theorem rcert_any (W : World) (rb : Nat) (l : List UInt8) (hr : RdAt W rb l) (hl : l.length ≤ 1048576) :
    Calls Try.prog 28 #[.pointer (some ⟨rb, 0, none⟩)] W fun e w' => CertEnd W rb l e w' := by
  have hrb : rb < W.heap.size := heap_lt hr
  have HR : Hid (RdAt W rb l) := hr
  obtain ⟨X, hX⟩ : ∃ X, X = ((W.alloc (.cells #[.int .i64 0, .slice none 0 0] 24)).alloc (.cells #[.int .i64 0, .slice none 0 0] 24)).alloc (.cells #[.int .i64 0] 3) := ⟨_, rfl⟩
  have hb : Below W.heap.size W X := by rw [hX]; exact ((bel1 _ _).alloc (by simp) _).alloc (by simp; omega) _
  have hX0 : X.heap[W.heap.size]? = some (.cells #[.int .i64 0, .slice none 0 0] 24) := by
    rw [hX]; exact (heap_alloc_old' _ (by simp; omega)).trans ((heap_alloc_old' _ (by simp)).trans (heap_alloc_new _ _))
  have hX1 : X.heap[W.heap.size + 1]? = some (.cells #[.int .i64 0, .slice none 0 0] 24) := by
    rw [hX]
    refine (heap_alloc_old' _ (by simp)).trans ?_
    have := heap_alloc_new (W.alloc (.cells #[.int .i64 0, .slice none 0 0] 24)) (.cells #[.int .i64 0, .slice none 0 0] 24)
    rw [show (W.alloc (.cells #[.int .i64 0, .slice none 0 0] 24)).heap.size = W.heap.size + 1 by simp] at this
    exact this
  have hX2 : X.heap[W.heap.size + 1 + 1]? = some (.cells #[.int .i64 0] 3) := by
    rw [hX]
    have := heap_alloc_new ((W.alloc (.cells #[.int .i64 0, .slice none 0 0] 24)).alloc (.cells #[.int .i64 0, .slice none 0 0] 24)) (.cells #[.int .i64 0] 3)
    rw [show ((W.alloc (.cells #[.int .i64 0, .slice none 0 0] 24)).alloc (.cells #[.int .i64 0, .slice none 0 0] 24)).heap.size = W.heap.size + 1 + 1 by simp] at this
    exact this
  have hXg : Gb rb W X := Gb.below hb
  have hXr : RdAt X rb l := (hb.block rb hrb).trans hr
  obtain ⟨V, hV⟩ : ∃ V, V = W.alloc (.cells #[.int .i64 0, .slice none 0 0] 24) := ⟨_, rfl⟩
  have hVs : V.heap.size = W.heap.size + 1 := by rw [hV]; simp
  have hV0 : V.heap[W.heap.size]? = some (.cells #[.int .i64 0, .slice none 0 0] 24) := by rw [hV]; exact heap_alloc_new _ _
  have hWV : Gb rb W V := by rw [hV]; exact Gb.below (bel1 _ _)
  have hVX : Gb rb V X := by
    rw [hX, ← hV]; exact Gb.below ((bel1 _ _).alloc (by simp) _)
  have HV : Hid (∀ w', Gb rb V w' → Gb rb W w' ∧ w'.heap[W.heap.size]? = some (.cells #[.int .i64 0, .slice none 0 0] 24)) := fun w' hg => ⟨hWV.trans hg, (hg.blk (by omega) (by omega)).trans hV0⟩
  have KM : Hid (Calls Try.prog 37 #[.pointer (some ⟨rb, 0, none⟩)] X fun e w' => e = .returned (.bool (decide (l.take 2 = [84, 67]))) ∧ Hid (Gb rb V w') ∧ Hid (RdAt w' rb (if l.take 2 = [84, 67] then l.drop 2 else l)) ∧ Hid (w'.heap[W.heap.size + 1]? = some (.cells #[.int .i64 0, .slice none 0 0] 24) ∧ w'.heap[W.heap.size + 1 + 1]? = some (.cells #[.int .i64 0] 3))) := by
    refine (mark_any X rb l hXr hl).mono ?_
    rintro e w' ⟨h1, h2⟩
    have hg := h2.out.1
    exact ⟨h1, hVX.trans hg, h2.out.2, (hg.blk (heap_lt hX1) (by omega)).trans hX1, (hg.blk (heap_lt hX2) (by omega)).trans hX2⟩
  have K2 : Hid (∀ (w2 : World) (r : List UInt8), Gb rb V w2 → RdAt w2 rb r → r.length ≤ 1048576 → w2.heap[W.heap.size + 1]? = some (.cells #[.int .i64 0, .slice none 0 0] 24) → w2.heap[W.heap.size + 1 + 1]? = some (.cells #[.int .i64 0] 3) → Calls Try.prog 38 #[.pointer (some ⟨rb, 0, none⟩), .slice (some ⟨w2.heap.size, 0, none⟩) 2 2] (w2.alloc (.cells #[.pointer (some ⟨W.heap.size + 1, 0, none⟩), .pointer (some ⟨W.heap.size + 1 + 1, 0, none⟩)] 92)) fun e w'' => ∃ ok, e = .returned (.bool ok) ∧ Hid (Gb rb V w'') ∧ Hid (match manyR (numR 4) 2 r with
      | some (vs, l2) => ok = true ∧ ∃ c n, vs = [c, n] ∧ RdAt w'' rb l2 ∧ l2.length ≤ 1048576 ∧ w''.heap[W.heap.size + 1]? = some (.cells #[.int .i64 c, .slice none 0 0] 24) ∧ w''.heap[W.heap.size + 1 + 1]? = some (.cells #[.int .i64 n] 3)
      | none => ok = false)) := fun w2 r hg hr1 hl1 hp1 hk1 => by
    have hlp := heap_lt hp1
    have hlk := heap_lt hk1
    refine (taken_u32 V w2 rb r [(W.heap.size + 1, 0), (W.heap.size + 1 + 1, 0)] (n := 2) rfl (by simp) hg (by omega) hr1 hl1 (fun b h => ?_)).mono ?_
    · simp only [List.mem_cons, List.not_mem_nil, or_false] at h
      rcases h with rfl | rfl
      · exact ⟨by simp only; omega, _, _, hp1, by simp⟩
      · exact ⟨by simp only; omega, _, _, hk1, by simp⟩
    · rintro e w'' ⟨ok, h1, h2, h3⟩
      have h4 := h3.out
      simp only [List.length_cons, List.length_nil, Nat.zero_add, Nat.reduceAdd] at h4
      refine ⟨ok, h1, h2, ?_⟩
      show (match manyR (numR 4) 2 r with | some (vs, l2) => _ | none => _)
      cases hm : manyR (numR 4) 2 r with
      | none => rw [hm] at h4; exact h4
      | some q =>
        obtain ⟨vs, l2⟩ := q
        rw [hm] at h4
        obtain ⟨g1, g2, g3, g4, g5, g6⟩ := h4
        obtain ⟨c, n, rfl⟩ := len2 g2
        have k1 := heap_setCell_is (k := 0) hp1 (.int .i64 c)
        have k2 : (w2.setCell ⟨W.heap.size + 1, 0, none⟩ (.int .i64 c)).heap[W.heap.size + 1 + 1]? = _ := (Go.Deep.blk_setCell_other w2 ⟨W.heap.size + 1, 0, none⟩ _ _ (by simp)).trans hk1
        refine ⟨g1, c, n, rfl, g3, g5, ?_, ?_⟩
        · rw [g6 _ hlp (by omega)]
          exact (Go.Deep.blk_setCell_other _ ⟨W.heap.size + 1 + 1, 0, none⟩ _ _ (by simp)).trans k1
        · rw [g6 _ hlk (by omega)]
          exact heap_setCell_is k2 _
  have HE0 : Hid (∀ w', Gb rb W w' → ctR l = none → ∀ e, e = Ending.returned (.tuple #[.agg #[.int .i64 0, .slice none 0 0], .bool false]) → CertEnd W rb l e ((w'.setCell ⟨W.heap.size, 0, none⟩ (.int .i64 0)).setCell ⟨W.heap.size, 1, none⟩ (.slice none 0 0))) := fun w' hg hn e he => by
    unfold CertEnd
    rw [hn]
    exact ⟨(hg.set (Nat.le_refl _) _ _).set (Nat.le_refl _) _ _, he⟩
  have HEg : Hid (∀ w', Gb rb W w' → ctR l = none → ∀ e, e = Ending.returned (.tuple #[.agg #[.int .i64 0, .slice none 0 0], .bool false]) → CertEnd W rb l e w') := fun w' hg hn e he => by
    unfold CertEnd
    rw [hn]
    exact ⟨hg, he⟩
  clear hVX hWV hV0 hVs hV
  clear hb hX0 hX1 hX2 hXg hXr hr
  go_enter Try.func28, Try.ntmps28
  go_upto_region 3 with fail
  rw [← hX]
  clear hX
  by_cases ht : l.take 2 = [84, 67]
  · have hd : decide (l.take 2 = [84, 67]) = true := decide_eq_true ht
    rw [hd, if_pos ht] at KM
    have HT : Hid (l.take 2 = [84, 67]) := ht
    clear ht hd
    have hl2 : (l.drop 2).length ≤ 1048576 := by simp; omega
    have HL2 : Hid ((l.drop 2).length ≤ 1048576) := hl2
    clear hl2
    obtain ⟨l0, hl0⟩ : ∃ l0, l.drop 2 = l0 := ⟨_, rfl⟩
    have HD0 : Hid (l.drop 2 = l0) := hl0
    rw [hl0] at KM HL2
    clear hl0
    cases m1 : manyR (numR 4) 2 l0 with
    | none =>
      have HPk : Hid (ctR l = none) := by
        show ctR l = none
        unfold ctR ctR0; rw [if_pos HT.out, HD0.out]; simp only [m1]
      go_wp2_with (first
        | (go_at_call 37; refine KM.out.mono ?_; rintro e w2 ⟨rfl, g2, r2, h2⟩)
        | (go_at_call 38; refine (K2.out w2 l0 g2.out r2.out HL2.out h2.out.1 h2.out.2).mono ?_; rintro e w3 ⟨ok, rfl, g3, h3⟩; rw [m1] at h3; have h3 : ok = false := h3.out; subst h3; have h0 := (HV.out w3 g3.out).2; have z0 := Lib.frozen_of_heap h0 0; have z1 := Lib.frozen_of_heap h0 1; have y0 := Lib.cell_of_heap h0 0; have y1 := Lib.cell_of_heap h0 1))
      (try simp only [Exit.inBlock, Exit.then])
      refine bodyPost_ret (v := .tuple #[.agg #[.int .i64 0, .slice none 0 0], .bool false]) ?_ rfl ?_
      · rw [results_cell_tmpP rfl]
        go_simp
      · exact HE0.out _ ((HV.out w3 g3.out).1) HPk.out _ rfl
    | some q1 =>
      obtain ⟨vs, l1⟩ := q1
      obtain ⟨ro, n, rfl⟩ : ∃ ro n, vs = [ro, n] := len2 ((many_codec (num_codec 4)).2 _ _ _ _ m1).1
      have hfit := ((many_codec (num_codec 4)).2 _ _ _ _ m1).2.1
      have hn0 : 0 ≤ n := by
        simp only [List.all_cons, List.all_nil, Bool.and_true, Bool.and_eq_true] at hfit
        exact fit_nat hfit.2
      clear hfit
      by_cases hbig : 65536 < n
      · have HPk : Hid (ctR l = none) := by
          show ctR l = none
          unfold ctR ctR0; rw [if_pos HT.out, HD0.out]; simp only [m1]; rw [if_pos hbig]
        go_wp2_with (first
          | (go_at_call 37; refine KM.out.mono ?_; rintro e w2 ⟨rfl, g2, r2, h2⟩)
          | (go_at_call 38; refine (K2.out w2 l0 g2.out r2.out HL2.out h2.out.1 h2.out.2).mono ?_; rintro e w3 ⟨ok, rfl, g3, h3⟩; rw [m1] at h3; obtain ⟨rfl, ro', n', ec, r3, q3, p3, k3⟩ := h3.out; obtain ⟨rfl, rfl⟩ : ro = ro' ∧ n = n' := (by simpa using ec); have x3 : w3.cell? ⟨W.heap.size + 1 + 1, 0, none⟩ = some (.int .i64 n) := Lib.cell_of_heap k3 0; have h0 := (HV.out w3 g3.out).2; have z0 := Lib.frozen_of_heap h0 0; have z1 := Lib.frozen_of_heap h0 1; have y0 := Lib.cell_of_heap h0 0; have y1 := Lib.cell_of_heap h0 1))
        (try simp only [Exit.inBlock, Exit.then])
        refine bodyPost_ret (v := .tuple #[.agg #[.int .i64 0, .slice none 0 0], .bool false]) ?_ rfl ?_
        · rw [results_cell_tmpP rfl]
          go_simp
        · exact HE0.out _ ((HV.out w3 g3.out).1) HPk.out _ rfl
      · have HRES : Hid (ctR l = (match manyR ndR n.toNat l1 with | some (ns, []) => some ⟨ro, ns⟩ | _ => none)) := by
          show ctR l = _
          unfold ctR ctR0; rw [if_pos HT.out, HD0.out]; simp only [m1]; rw [if_neg hbig]
          cases manyR ndR n.toNat l1 with
          | none => rfl
          | some q =>
            obtain ⟨ns, r⟩ := q
            cases r <;> rfl
        have HN : Hid (0 ≤ n ∧ n ≤ 65536) := ⟨hn0, by omega⟩
        go_upto_if 21 with (first
          | (go_at_call 37; refine KM.out.mono ?_; rintro e w2 ⟨rfl, g2, r2, h2⟩)
          | (go_at_call 38; refine (K2.out w2 l0 g2.out r2.out HL2.out h2.out.1 h2.out.2).mono ?_; rintro e w3 ⟨ok, rfl, g3, h3⟩; rw [m1] at h3; obtain ⟨rfl, ro', n', ec, r3, q3, p3, k3⟩ := h3.out; obtain ⟨rfl, rfl⟩ : ro = ro' ∧ n = n' := (by simpa using ec); have x3 : w3.cell? ⟨W.heap.size + 1 + 1, 0, none⟩ = some (.int .i64 n) := Lib.cell_of_heap k3 0))
        have HL0 : Hid (CtL W rb ro none 0 0 [] [] (fun _ => False) l1 w3) := ⟨(HV.out w3 g3.out).2, p3, World.ownsRow_nil _ _ _ _, ⟨rfl, fun _ _ _ h _ => by simp at h⟩, fun _ h => h.elim, fun _ _ h => h, r3, (HV.out w3 g3.out).1, q3⟩
        clear KM K2 h2 h3 ec g2 r2 g3 r3 q3 p3 k3 m1 HV
        have A1 := as_nd
        have A2 := as_ndn
        go_wp2
        go_loopw [24] (fun x wr => ∃ (kk : Nat) (pp : Option Addr) (cp : Nat) (ns : List Nd) (us : List Value) (F : Nat → Prop) (r : List UInt8), kk ≤ n.toNat ∧ x = .int .i64 (kk : Int) ∧ Hid (CtL W rb ro pp kk cp ns us F r wr ∧ ns.length = kk ∧ manyR ndR n.toNat l1 = fromR ndR ns (n.toNat - kk) r)) (fun x _ => n.toNat - (intOf x).toNat)
        case atStart => exact ⟨0, none, 0, [], [], _, l1, by omega, rfl, HL0.out, rfl, by rw [fromR_nil]; rfl⟩
        case round =>
          obtain ⟨kk, pp, cp, ns, us, F, r, hk, rfl, HI⟩ := hrel
          have hnn := HN.out
          by_cases hlt : kk < n.toNat
          · have hltI : (kk : Int) < n := by omega
            have KP : Hid (Calls Try.prog 39 #[.pointer (some ⟨rb, 0, none⟩)] wr fun e w' => NodeEnd wr rb r e w') := rnode_any wr rb r HI.out.1.rd HI.out.1.hl
            have hsz := HI.out.1.gb.size
            cases m3 : ndR r with
            | none =>
              have HPk : Hid (ctR l = none) := by
                show ctR l = none
                rw [HRES.out, HI.out.2.2, show n.toNat - kk = (n.toNat - (kk + 1)) + 1 by omega, fromR_no m3]
              go_wp2_with (go_at_call 39; refine KP.out.mono ?_; rintro e w4 hE; unfold NodeEnd at hE; rw [m3] at hE; obtain ⟨g4, rfl⟩ := hE; have h0 := (g4.out.blk (heap_lt HI.out.1.h0) (by omega)).trans HI.out.1.h0; have z0 := Lib.frozen_of_heap h0 0; have z1 := Lib.frozen_of_heap h0 1; have y0 := Lib.cell_of_heap h0 0; have y1 := Lib.cell_of_heap h0 1; have zlt := heap_lt h0)
              (try simp only [Exit.inBlock, Exit.then])
              refine bodyPost_ret (v := .tuple #[.agg #[.int .i64 0, .slice none 0 0], .bool false]) ?_ rfl ?_
              · rw [results_cell_tmpP rfl]
                go_simp
              · exact HEg.out _ ((Gb.set (Gb.set (HI.out.1.gb.trans g4.out) (Nat.le_refl _) _ _) (Nat.le_refl _) _ _).trans (Gb.below (bel1 _ _))) HPk.out _ rfl
            | some q3 =>
              obtain ⟨x, r2⟩ := q3
              go_wp2_with (first
                | (go_at_call 39; refine KP.out.mono ?_; rintro e w4 hE; unfold NodeEnd at hE; rw [m3] at hE; obtain ⟨g4, pv, cv, rfl, hx⟩ := hE; obtain ⟨p2, cp2, w5, hrun, z1, z2, HL, z3⟩ := HI.out.1.push hrb x pv cv g4.out hx.out.1 hx.out.2.1 hx.out.2.2 (by omega); have zlt := cell_lt z3)
                | (at_builtin; refine wpList_run_appendP rfl _ _ 22 rfl _ _ rfl rfl hrun ?_))
              go_roundw
              case rel =>
                obtain ⟨us2, F2, HL2⟩ := HL.out
                refine ⟨kk + 1, p2, cp2, ns ++ [x], us2, F2, r2, by omega, by go_num, HL2, by simp [HI.out.2.1], ?_⟩
                rw [HI.out.2.2, show n.toNat - kk = (n.toNat - (kk + 1)) + 1 by omega, fromR_yes m3]
              case measure => simp [intOf]; omega
          · obtain rfl : kk = n.toNat := by omega
            have hnE : ((n.toNat : Nat) : Int) = n := by omega
            have h0 := HI.out.1.h0
            have z0 := Lib.frozen_of_heap h0 0
            have z1 := Lib.frozen_of_heap h0 1
            have y0 := Lib.cell_of_heap h0 0
            have y1 := Lib.cell_of_heap h0 1
            have x0 : wr.cell? ⟨W.heap.size + 1, 0, none⟩ = some (.int .i64 ro) := Lib.cell_of_heap HI.out.1.hn 0
            have x1 : wr.cell? ⟨W.heap.size + 1, 1, none⟩ = some (.slice pp n.toNat cp) := Lib.cell_of_heap HI.out.1.hn 1
            cases r with
            | nil =>
              have c0 : wr.cell? ⟨rb, 0, none⟩ = some (.string ⟨#[]⟩) := Lib.cell_of_heap HI.out.1.rd 0
              have HP : Hid (ctR l = some ⟨ro, ns⟩) := by
                show ctR l = _
                rw [HRES.out, HI.out.2.2, Nat.sub_self, fromR_zero]
              go_wp2
              (try simp only [Exit.inBlock, Exit.then])
              refine bodyPost_ret (v := .tuple #[.agg #[.int .i64 ro, .slice pp n.toNat cp], .bool true]) ?_ rfl ?_
              · rw [results_cell_tmpP rfl]
                go_simp
              · unfold CertEnd; rw [HP.out]
                refine ⟨(HI.out.1.gb.set (Nat.le_refl _) _ _).set (Nat.le_refl _) _ _, pp, cp, ?_, ?_⟩
                · show _ = Ending.returned (.tuple #[.agg #[.int .i64 ro, .slice pp ns.length cp], .bool true])
                  rw [HI.out.2.1]
                · show IsNds _ _ (.slice pp ns.length cp) ns
                  rw [HI.out.2.1]
                  have h5 := HI.out.1.own
                  have hne := row_ndC h5 HI.out.1.h0
                  have h6 := ownsRow_setP (ownsRow_setP h5 hne (k := 0) (.int .i64 ro)) hne (k := 1) (.slice pp n.toNat cp)
                  have hst : Stay F wr ((wr.setCell ⟨W.heap.size, 0, none⟩ (.int .i64 ro)).setCell ⟨W.heap.size, 1, none⟩ (.slice pp n.toNat cp)) := ⟨by simp [World.setCell], fun b hb => (Go.Deep.blk_setCell_other _ ⟨W.heap.size, 1, none⟩ _ _ (by have := (HI.out.1.fl b hb).1; show b ≠ W.heap.size; omega)).trans (Go.Deep.blk_setCell_other _ ⟨W.heap.size, 0, none⟩ _ _ (by have := (HI.out.1.fl b hb).1; show b ≠ W.heap.size; omega))⟩
                  have h7 := HI.out.1.nin.keep hst (fun _ hb => hb)
                  refine ⟨us, ?_, h7.1, fun q y u e1 e2 => IsPks.low (h7.2 q y u e1 e2) (fun b hb _ => by have := (HI.out.1.fl b hb).1; omega)⟩
                  have := Reads.of h6 (F := fun b => W.heap.size ≤ b) (fun b hb => (h5.lt b hb).1)
                  rw [HI.out.2.1]; exact this
            | cons t0 r =>
              have c0 : wr.cell? ⟨rb, 0, none⟩ = some (.string ⟨(t0 :: r).toArray⟩) := Lib.cell_of_heap HI.out.1.rd 0
              obtain ⟨s0, hs0⟩ : ∃ s : ByteArray, (⟨(t0 :: r).toArray⟩ : ByteArray) = s := ⟨_, rfl⟩
              rw [hs0] at c0
              have HPk : Hid (ctR l = none) := by
                show ctR l = none
                rw [HRES.out, HI.out.2.2, Nat.sub_self, fromR_zero]
              have hs1 : s0.toList.isEmpty = false := by
                rw [Bool.eq_false_iff]
                intro h
                have h2 : s0.toList = [] := by simpa using h
                have h3 := (toList_nil_iff_emptyBytes s0).1 h2
                rw [← hs0] at h3
                have h4 := congrArg ByteArray.size h3
                simp [ByteArray.size] at h4
              clear hs0
              go_wp2
              (try simp only [Exit.inBlock, Exit.then])
              refine bodyPost_ret (v := .tuple #[.agg #[.int .i64 0, .slice none 0 0], .bool false]) ?_ rfl ?_
              · rw [results_cell_tmpP rfl]
                go_simp
              · exact HEg.out _ ((HI.out.1.gb.set (Nat.le_refl _) _ _).set (Nat.le_refl _) _ _) HPk.out _ rfl
  · have hd : decide (l.take 2 = [84, 67]) = false := decide_eq_false ht
    have HPk : Hid (ctR l = none) := by
      show ctR l = none
      unfold ctR ctR0; rw [if_neg ht]
    rw [hd] at KM
    clear ht hd
    go_wp2_with (go_at_call 37; refine KM.out.mono ?_; rintro e w2 ⟨rfl, g2, r2, h2⟩; have h0 := (HV.out w2 g2.out).2; have z0 := Lib.frozen_of_heap h0 0; have z1 := Lib.frozen_of_heap h0 1; have y0 := Lib.cell_of_heap h0 0; have y1 := Lib.cell_of_heap h0 1)
    (try simp only [Exit.inBlock, Exit.then])
    refine bodyPost_ret (v := .tuple #[.agg #[.int .i64 0, .slice none 0 0], .bool false]) ?_ rfl ?_
    · rw [results_cell_tmpP rfl]
      go_simp
    · exact HE0.out w2 (HV.out w2 g2.out).1 HPk.out _ rfl
/-- What Get answers. -/
def GetEnd (W : World) (l : List UInt8) (e : Ending) (w' : World) : Prop := Hid (Below W.heap.size W w') ∧ ∃ pv cv, e = .returned (.tuple #[.agg #[.int .i64 (getT l).1.root, .slice pv (getT l).1.nodes.length cv], .int .i64 (getT l).2]) ∧ Hid (IsNds w' (fun b => W.heap.size ≤ b) (.slice pv (getT l).1.nodes.length cv) (getT l).1.nodes)
theorem nds_none (w : World) (F : Nat → Prop) : IsNds w F (.slice none 0 0) [] := ⟨[], ⟨none, 0, rfl, ⟨Nat.zero_le _, Nat.zero_le _⟩, fun h => absurd h (Nat.lt_irrefl _)⟩, rfl, fun _ _ _ h _ => by simp at h⟩
set_option maxHeartbeats 8000000 in
set_option maxRecDepth 100000 in
/-- Get. -/
theorem get_any (W : World) (l : List UInt8) :
    Calls Try.prog 12 #[.string ⟨l.toArray⟩] W fun e w' => GetEnd W l e w' := by
  have hsz : (⟨l.toArray⟩ : ByteArray).size = l.length := by simp [ByteArray.size]
  obtain ⟨s, hs⟩ : ∃ s : ByteArray, (⟨l.toArray⟩ : ByteArray) = s := ⟨_, rfl⟩
  rw [hs] at hsz ⊢
  have hszI : ((s.size : Nat) : Int) = (l.length : Int) := by omega
  obtain ⟨V, hV⟩ : ∃ V, V = W.alloc (.cells #[.int .i64 0, .slice none 0 0] 24) := ⟨_, rfl⟩
  obtain ⟨X, hX⟩ : ∃ X, X = V.alloc (.cells #[.string s] 71) := ⟨_, rfl⟩
  have hVs : V.heap.size = W.heap.size + 1 := by rw [hV]; simp
  have hV0 : V.heap[W.heap.size]? = some (.cells #[.int .i64 0, .slice none 0 0] 24) := by rw [hV]; exact heap_alloc_new _ _
  have hWV : Below W.heap.size W V := by rw [hV]; exact bel1 _ _
  have hVX : Below V.heap.size V X := by rw [hX]; exact bel1 _ _
  have hXr : RdAt X (W.heap.size + 1) l := by
    rw [hX, ← hVs]; unfold RdAt; rw [hs]; exact heap_alloc_new _ _
  have hXs : X.heap.size = W.heap.size + 2 := by rw [hX]; simp; omega
  have HNo : Hid (∀ (w' : World) (x : Int), Below W.heap.size W w' → getT l = (⟨0, []⟩, x) → ∀ e, e = Ending.returned (.tuple #[.agg #[.int .i64 0, .slice none 0 0], .int .i64 x]) → GetEnd W l e w') := fun w' x hb hg e he => by
    unfold GetEnd
    rw [hg]
    exact ⟨hb, none, 0, he, nds_none _ _⟩
  by_cases hl : l.length ≤ 1048576
  · have hlI : ¬ (1048576 : Int) < (l.length : Int) := by omega
    have KC : Hid (Calls Try.prog 28 #[.pointer (some ⟨W.heap.size + 1, 0, none⟩)] X fun e w' => CertEnd X (W.heap.size + 1) l e w') := rcert_any X _ l hXr hl
    have HX : Hid (∀ w', Gb (W.heap.size + 1) X w' → Below W.heap.size W w' ∧ w'.heap[W.heap.size]? = some (.cells #[.int .i64 0, .slice none 0 0] 24) ∧ W.heap.size + 2 ≤ w'.heap.size) := fun w' hg => by
      have h1 : Below W.heap.size W X := hWV.trans (hVX.mono (by omega))
      have h2 := hg.size
      refine ⟨⟨hg.os.trans h1.os, hg.tape.trans h1.tape, hg.output.trans h1.output, by omega, fun i hi => (hg.blk (by omega) (by omega)).trans (h1.block i hi)⟩, ?_, by omega⟩
      exact (hg.blk (by omega) (by omega)).trans ((hVX.block _ (by omega)).trans hV0)
    have HXS : Hid (X.heap.size = W.heap.size + 2) := hXs
    clear hVs hV0 hWV hVX hXr hXs hs
    go_enter Try.func12, Try.ntmps12
    go_upto_region 4 with fail
    rw [← hV, ← hX]
    clear hV hX
    cases m1 : ctR l with
    | none =>
      have HG : Hid (getT l = (⟨0, []⟩, 1800)) := by
        show getT l = _
        unfold getT; rw [if_neg (by omega)]; simp only [m1]
      go_wp2_with (go_at_call 28; refine KC.out.mono ?_; rintro e w2 hE; unfold CertEnd at hE; rw [m1] at hE; obtain ⟨g2, rfl⟩ := hE; obtain ⟨q1, q2, q3⟩ := HX.out w2 g2.out; have z0 := Lib.frozen_of_heap q2 0; have z1 := Lib.frozen_of_heap q2 1; have y0 := Lib.cell_of_heap q2 0; have y1 := Lib.cell_of_heap q2 1; have HQ : Hid (Below W.heap.size W w2) := q1; have zlt : W.heap.size < w2.heap.size := by omega)
      (try simp only [Exit.inBlock, Exit.then])
      refine bodyPost_ret (v := .tuple #[.agg #[.int .i64 0, .slice none 0 0], .int .i64 1800]) ?_ rfl ?_
      · rw [results_cell_tmpP rfl]
        go_simp
      · exact HNo.out _ 1800 (((HQ.out.setCell (p := ⟨W.heap.size, 0, none⟩) (Nat.le_refl _) _).setCell (p := ⟨W.heap.size, 1, none⟩) (Nat.le_refl _) _).alloc (by simp [World.setCell]; omega) _) HG.out _ rfl
    | some c =>
      have HG : Hid (getT l = (c, 0)) := by
        show getT l = _
        unfold getT; rw [if_neg (by omega)]; simp only [m1]
      go_wp2_with (go_at_call 28; refine KC.out.mono ?_; rintro e w2 hE; unfold CertEnd at hE; rw [m1] at hE; obtain ⟨g2, pv, cv, rfl, hx⟩ := hE; obtain ⟨q1, q2, q3⟩ := HX.out w2 g2.out; have z0 := Lib.frozen_of_heap q2 0; have z1 := Lib.frozen_of_heap q2 1; have y0 := Lib.cell_of_heap q2 0; have y1 := Lib.cell_of_heap q2 1; have HQ : Hid (Below W.heap.size W w2) := q1; have zlt : W.heap.size < w2.heap.size := by omega)
      (try simp only [Exit.inBlock, Exit.then])
      refine bodyPost_ret (v := .tuple #[.agg #[.int .i64 c.root, .slice pv c.nodes.length cv], .int .i64 0]) ?_ rfl ?_
      · rw [results_cell_tmpP rfl]
        go_simp
      · unfold GetEnd; rw [HG.out]
        refine ⟨((HQ.out.setCell (p := ⟨W.heap.size, 0, none⟩) (Nat.le_refl _) _).setCell (p := ⟨W.heap.size, 1, none⟩) (Nat.le_refl _) _).alloc (by simp [World.setCell]; omega) _, pv, cv, rfl, ?_⟩
        have h1 : IsNds w2 (fun b => W.heap.size + 2 ≤ b ∧ b < w2.heap.size) (.slice pv c.nodes.length cv) c.nodes := hx.out.low (fun b h1 h2 => ⟨by have := HXS.out; omega, h2⟩)
        have hst : Stay (fun b => W.heap.size + 2 ≤ b ∧ b < w2.heap.size) w2 ((w2.setCell ⟨W.heap.size, 0, none⟩ (.int .i64 c.root)).setCell ⟨W.heap.size, 1, none⟩ (.slice pv c.nodes.length cv)) := ⟨by simp [World.setCell], fun b hb => (Go.Deep.blk_setCell_other _ ⟨W.heap.size, 1, none⟩ _ _ (by show b ≠ W.heap.size; omega)).trans (Go.Deep.blk_setCell_other _ ⟨W.heap.size, 0, none⟩ _ _ (by show b ≠ W.heap.size; omega))⟩
        exact ((h1.keep hst (fun _ hb => hb)).any (bel1 _ _)).low (fun b hb _ => by omega)
  · have hlI : (1048576 : Int) < (l.length : Int) := by omega
    have HG : Hid (getT l = (⟨0, []⟩, 1801)) := by
      show getT l = _
      unfold getT; rw [if_pos (by omega)]
    have y0 : V.cell? ⟨W.heap.size, 0, none⟩ = some (.int .i64 0) := Lib.cell_of_heap hV0 0
    clear hX hVX hXr hXs hs
    go_enter Try.func12, Try.ntmps12
    go_wp2
    (try simp only [Exit.inBlock, Exit.then])
    refine bodyPost_ret (v := .tuple #[.agg #[.int .i64 0, .slice none 0 0], .int .i64 1801]) ?_ rfl ?_
    · rw [results_cell_tmpP rfl]
      go_simp
    · exact HNo.out _ 1801 (bel1 _ _) HG.out _ rfl
end Go.Proofs.Ytgeajdfajfdjcaa
