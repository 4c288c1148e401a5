import Derived.Test.YtkihbgikdbaelaaStrLev
import Derived.ArgAppend
import Derived.Deep.QuietTactic
/- distances of strata: a walk by breadth, with a row that waits. -/
namespace Go.Proofs.Ytkihbgikdbaelaa
set_option linter.unusedVariables false
open Go.ChangeShapes Go.WideShapes Go.ChangeAt Go.RowKit

/-- An append that is known. -/
theorem wpList_run_append {P : Program} {w : World} {ops : Array Oper} {rest : List Oper} {o : Oper} {a : Act} {Q : Exit → Act → World → Prop} (hgd : o.guard = none) (s x : Operand) (t : TypeId)
    (ho : o.op = .call { callee := .builtin .append, args := #[s, x], argTypes := #[t, t] }) (v u : Value) (hs : a.eval s = v) (hx : a.eval x = u) {v' : Value} {w' : World} (hr : (Builtin.append_ #[t, t] o.type #[v, u]).run P w = .ok v' w') (h : wpList P ops Q rest (a.put o.dst v') w') :
    wpList P ops Q (o :: rest) a w := wpList_plain hgd fun K hK => by
  unfold Oper.wp execOp
  simp only [ho, resolve, invoke, builtin, Sem.run_bind, Sem.run_pure, Result.andThen_ok, List.map_toArray, List.map_cons, List.map_nil, hs, hx, hr]
  exact hK _ _ h
def natsV (q : List Nat) : List Value := q.map fun i => Value.int .i64 ((i : Nat) : Int)
theorem natsV_length (q : List Nat) : (natsV q).length = q.length := by simp [natsV]
/-- A row that waits: it may start at any place of its block, which lies above B. -/
def QAt (w : World) (B : Nat) (v : Value) (q : List Nat) : Prop :=
  ∃ g o cap arr, v = .slice (some ⟨g, o, none⟩) q.length cap ∧ B ≤ g ∧ w.heap[g]? = some (.cells arr 3 (0, 0)) ∧ o + cap ≤ arr.size ∧ q.length ≤ cap ∧ cap ≤ maxLen ∧ ∀ j c, (natsV q)[j]? = some c → arr[o + j]? = some c
theorem QAt.keep {w w' : World} {B : Nat} {v : Value} {q : List Nat} (h : QAt w B v q) (hb : ∀ g, B ≤ g → g < w.heap.size → w'.heap[g]? = w.heap[g]?) : QAt w' B v q := by
  obtain ⟨g, o, cap, arr, h1, h2, h3, h4⟩ := h
  exact ⟨g, o, cap, arr, h1, h2, (hb g h2 (heap_lt h3)).trans h3, h4⟩
theorem QAt.any {w w' : World} {B : Nat} {v : Value} {q : List Nat} (h : QAt w B v q) (hb : Below w.heap.size w w') : QAt w' B v q := h.keep fun g _ hg => hb.block g hg
theorem QAt.slc {w : World} {B : Nat} {v : Value} {q : List Nat} (h : QAt w B v q) : ∃ g o cap, v = .slice (some ⟨g, o, none⟩) q.length cap ∧ q.length ≤ cap ∧ cap ≤ maxLen := by
  obtain ⟨g, o, cap, arr, h1, h2, h3, h4, h5, h6, _⟩ := h
  exact ⟨g, o, cap, h1, h5, h6⟩
theorem QAt.new (w : World) {B : Nat} (hB : B ≤ w.heap.size) (a : Nat) : QAt (w.alloc (.cells #[.int .i64 (a : Int)] 3)) B (.slice (some ⟨w.heap.size, 0, none⟩) 1 1) [a] := by
  refine ⟨_, 0, 1, _, rfl, hB, heap_alloc_new w _, by simp, Nat.le_refl _, by unfold maxLen; omega, fun j c hj => ?_⟩
  rw [Nat.zero_add]
  simpa [natsV] using hj
theorem QAt.head {w : World} {B g o n cap a : Nat} {q : List Nat} (h : QAt w B (.slice (some ⟨g, o, none⟩) n cap) (a :: q)) : w.cell? ⟨g, o, none⟩ = some (.int .i64 (a : Int)) ∧ g < w.heap.size := by
  obtain ⟨g', o', cap', arr, h1, h2, h3, h4, h5, h6, h7⟩ := h
  simp only [Value.slice.injEq, Option.some.injEq, Addr.mk.injEq] at h1
  obtain ⟨⟨rfl, rfl, _⟩, _, _⟩ := h1
  refine ⟨?_, heap_lt h3⟩
  rw [cell_of_row _ _ o _ _ (0, 0) h3]
  exact h7 0 _ rfl
theorem QAt.pop {w : World} {B g o n cap a : Nat} {q : List Nat} (h : QAt w B (.slice (some ⟨g, o, none⟩) n cap) (a :: q)) : QAt w B (.slice (if cap = 1 then some ⟨g, o, none⟩ else some ⟨g, o + 1, none⟩) q.length (cap - 1)) q := by
  obtain ⟨g', o', cap', arr, h1, h2, h3, h4, h5, h6, h7⟩ := h
  simp only [Value.slice.injEq, Option.some.injEq, Addr.mk.injEq] at h1
  obtain ⟨⟨rfl, rfl, _⟩, _, rfl⟩ := h1
  simp only [List.length_cons] at h5
  by_cases hc : cap = 1
  · subst hc
    have : q = [] := List.eq_nil_of_length_eq_zero (by omega)
    subst this
    rw [if_pos rfl]
    exact ⟨g, o, 0, arr, rfl, h2, h3, by omega, Nat.le_refl _, Nat.zero_le _, fun j c hj => by simp [natsV] at hj⟩
  · rw [if_neg hc]
    refine ⟨g, o + 1, cap - 1, arr, rfl, h2, h3, by omega, by omega, by omega, fun j c hj => ?_⟩
    have := h7 (j + 1) c (by simpa [natsV] using hj)
    rw [← this]; congr 1; omega
theorem QAt.append {w : World} {B : Nat} {v : Value} {q : List Nat} (h : QAt w B v q) (hB : B ≤ w.heap.size) {h0 z : Nat} (hz : w.cell? ⟨h0, 0, none⟩ = some (.int .i64 (z : Int))) (hl : q.length ≤ 100000) :
    ∃ v' w', (Builtin.append_ #[45, 45] 45 #[v, .slice (some ⟨h0, 0, none⟩) 1 1]).run Try.prog w = .ok v' w' ∧ QAt w' B v' (q ++ [z]) ∧ Below B w w' := by
  obtain ⟨g, o, cap, arr, rfl, h2, h3, h4, h5, h6, h7⟩ := h
  obtain ⟨i, hi, hzz, hs, hb⟩ := info_parts Try.infoInt
  have hnews : ∀ j u, ([.int .i64 (z : Int)] : List Value)[j]? = some u → w.cell? ((⟨h0, 0, none⟩ : Addr).add j) = some u := fun j u hj => by
    match j, hj with
    | 0, hj =>
      simp at hj
      subst hj
      exact hz
  have hone : ∀ u ∈ ([.int .i64 (z : Int)] : List Value), u.oneCell' = true := fun u hu => by simp at hu; subst hu; rfl
  have hcell : ∀ j, w.cell? ⟨g, j, none⟩ = arr[j]? := fun j => cell_of_row _ _ j _ _ (0, 0) h3
  by_cases hroom : q.length + 1 ≤ cap
  · have hr := run_append_room_cells (P := Try.prog) w 45 45 3 i Try.underlying45 hi g o q.length cap ⟨h0, 0, none⟩ 1 1 [.int .i64 (z : Int)] (by rw [hs]; rfl) hnews hone hroom (fun j hj => by
      obtain rfl : j = 0 := by simpa using hj
      rw [hs, hcell]; simp; omega) (fun j hj => by simp [World.frozen?, h3])
    refine ⟨_, _, hr, ?_, ?_⟩
    · refine ⟨g, o, cap, arr.setIfInBounds (o + q.length) (.int .i64 (z : Int)), by simp, h2, ?_, by simpa using h4, by simpa using hroom, h6, fun j c hj => ?_⟩
      · rw [hs]
        simp only [World.setCells, World.setCell, Array.getElem?_modify, if_pos, h3, Option.map_some, Nat.mul_one]
        rfl
      · rw [Array.getElem?_setIfInBounds]
        by_cases e : j < q.length
        · rw [if_neg (by omega)]
          exact h7 j c (by unfold natsV at hj ⊢; rw [List.map_append, List.getElem?_append_left (by simpa using e)] at hj; exact hj)
        · have hjl := (List.getElem?_eq_some_iff.1 hj).1
          rw [natsV_length] at hjl
          simp at hjl
          obtain rfl : j = q.length := by omega
          rw [if_pos rfl, if_pos (by omega), ← hj]
          simp [natsV]
    · exact ⟨rfl, rfl, rfl, by simp [World.setCells, World.setCell], fun k hk => by
        rw [World.setCells, World.setCells]
        exact Go.Deep.blk_setCell_other _ _ _ _ (by show k ≠ g; omega)⟩
  · obtain ⟨v', w', hr, ho, hg⟩ := run_append_arg_grows (P := Try.prog) w 45 45 3 i _ 1 8 Try.underlying45 hi hzz hs hb rfl (by omega) ⟨g, o, none⟩ q.length cap (natsV q) (by rw [natsV_length]; omega) (fun j u hj => by
      rw [Addr.add_lit, hcell]; exact h7 j u hj) ⟨h0, 0, none⟩ 1 1 [.int .i64 (z : Int)] rfl hnews (by omega) (by unfold maxLen; omega) (by omega)
    refine ⟨v', w', hr, ?_, ⟨hg.os, hg.tape, hg.output, hg.size, fun k hk => hg.block k (by omega) (by simp)⟩⟩
    obtain ⟨hlen, ⟨_, e0⟩ | ⟨g2, cap2, cur, e1, e2, e3, e4, e5, e6, e7⟩⟩ := ho
    · omega
    · refine ⟨g2, 0, cap2, cur, by rw [e1]; simp, by omega, e3, by rw [e6]; omega, by simpa using e4, e5, fun j c hj => ?_⟩
      rw [Nat.zero_add]
      have hjl := (List.getElem?_eq_some_iff.1 hj).1
      rw [natsV_length] at hjl
      simp at hjl
      have h9 : (cur.toList.take ((q.length + 1) * 1))[j]? = some c := by rw [e7, ← hj]; simp [natsV]
      rw [List.getElem?_take, if_pos (by omega)] at h9
      simpa using h9
theorem low_start {n g : Nat} (hg : g < n) (i : Nat) : putZ (fun _ => -1) g 0 i + (unset n (putZ (fun _ => -1) g 0) : Int) < n := by
  have h1 := unset_put (n := n) (f := fun _ => -1) (v := g) (z := 0) hg rfl (by omega)
  have h2 : unset n (fun _ => -1) ≤ n := cnt_le _ n
  by_cases e : i = g
  · rw [e, putZ_same]; omega
  · rw [putZ_other _ _ e]; omega
theorem low_push {n v a : Nat} {f : Nat → Int} (h : ∀ i, f i + (unset n f : Int) < n) (hv : v < n) (hf : f v = -1) (ha : 0 ≤ f a) (i : Nat) : putZ f v (f a + 1) i + (unset n (putZ f v (f a + 1)) : Int) < n := by
  have h1 := unset_put (n := n) (f := f) (v := v) (z := f a + 1) hv hf (by omega)
  by_cases e : i = v
  · have := h a
    rw [e, putZ_same]; omega
  · have := h i
    rw [putZ_other _ _ e]; omega
/-- What the walk holds. -/
structure FarSt (n : Nat) (l : List Ed) (b : Nat) (w0 : World) (v : Value) (f : Nat → Int) (q : List Nat) (wr : World) : Prop where
  low : ∀ i, f i + (unset n f : Int) < n
  row : QAt wr (b + 1) v q
  far : ZAt wr b (farL n f)
  bl : Below w0.heap.size w0 wr
set_option maxHeartbeats 4000000 in
set_option maxRecDepth 100000 in
theorem distances_any (n g : Nat) (v : Value) (l : List Ed) (w : World) {F : Nat → Prop} (ha : IsEds w F v l) (hm : mayE (n : Int) l = true) (hg : g < n) :
    Calls Try.prog 34 #[.int .i64 (n : Int), v, .int .i64 (g : Int)] w fun e w' => ∃ u f, e = .returned u ∧ Hid (FarIs l g f) ∧ Hid (IsInts w' (fun i => w.heap.size ≤ i) u (farL n f)) ∧ Hid (Below w.heap.size w w') := by
  obtain ⟨h0, h1, hl⟩ := mayE_all hm
  have hn : n ≤ 64 := by omega
  obtain ⟨W1, hW1⟩ : ∃ W1, W1 = w.alloc (.cells #[.int .i64 (-1)] 3) := ⟨_, rfl⟩
  have KR := repeat_any n w.heap.size W1 (by omega) hn (by rw [hW1]; exact World.cell?_alloc_at _ _ _ _ rfl) (by rw [hW1]; simp)
  have hb1 : Below w.heap.size w W1 := by rw [hW1]; exact bel1 _ _
  have hB : w.heap.size ≤ W1.heap.size := hb1.size
  obtain ⟨b, hb⟩ : ∃ b, b = W1.heap.size := ⟨_, rfl⟩
  rw [← hb] at KR hB
  obtain ⟨p, cp, rfl⟩ := ha.slc
  have hm9 : l.length ≤ 9223372036854775807 := by have := ha.len; unfold maxLen at this; omega
  have HA : Hid (IsEds w F (.slice p l.length cp) l) := ha
  have HL : Hid (edsB (n : Int) l = true) := hl
  have HB1 : Hid (Below w.heap.size w W1) := hb1
  have HBB : Hid (b = W1.heap.size) := hb
  clear ha hm h0 h1 hl hb hb1
  go_enter Try.func34, Try.ntmps34
  go_upto_region 2 with (go_at_call 51; rw [← hW1]; refine KR.mono ?_; rintro e w2 ⟨rfl, HZ2, HB2⟩)
  have fz := HZ2.out.frozen g
  have hbw : b < w2.heap.size := HZ2.out.lt
  have hcg := HZ2.out.cell (farL_at (n := n) (fun _ => -1) hg)
  have HS0 : Hid (Bfs n l g (putZ (fun _ => -1) g 0) [g]) := Bfs.begin l hg
  obtain ⟨W3, hW3⟩ : ∃ W3, W3 = (w2.setCell ⟨b, g, none⟩ (.int .i64 0)).alloc (.cells #[.int .i64 (g : Int)] 3) := ⟨_, rfl⟩
  have HS1 : Hid (FarSt n l b w (.slice (some ⟨w2.heap.size, 0, none⟩) 1 1) (putZ (fun _ => -1) g 0) [g] W3) := by
    have z1 := HZ2.out.put g 0
    rw [farL_put _ hg] at z1
    refine ⟨low_start hg, ?_, ?_, ?_⟩
    · have := QAt.new (w2.setCell ⟨b, g, none⟩ (.int .i64 0)) (B := b + 1) (by rw [Go.Deep.nblk_setCell]; omega) g
      rw [Go.Deep.nblk_setCell] at this
      rw [hW3]; exact this
    · rw [hW3]; exact z1.keep (bel1 _ _)
    · rw [hW3]
      refine bel_alloc (bel_set ?_ hB)
      exact HB1.out.trans (HB2.out.mono hB)
  go_wp2
  rw [← hW3]
  clear hcg hW3 HZ2 HB2 hbw fz
  obtain ⟨sz, hsz⟩ : ∃ sz, sz = w2.heap.size := ⟨_, rfl⟩
  rw [← hsz] at HS1 ⊢
  clear hsz
  go_loopg [8] (2 * n) (fun gk x wr => ∃ f q, Hid (Bfs n l g f q) ∧ Hid (FarSt n l b w x f q wr) ∧ Hid (2 * unset n f + q.length ≤ gk ∧ gk ≤ 128))
  case atStart =>
    refine ⟨_, _, HS0, HS1, ?_⟩
    have := HS1.out.low g
    rw [putZ_same] at this
    show _ ∧ _
    simp only [List.length_cons, List.length_nil]
    omega
  case round =>
    obtain ⟨f, q, HF, HS, HM⟩ := hrel
    cases q with
    | nil =>
      obtain ⟨gq, oq, cq, rfl, -, -⟩ := HS.out.row.slc
      have HI : Hid (IsInts wr (fun i => w.heap.size ≤ i) (.slice (some ⟨b, 0, none⟩) n n) (farL n f)) := HS.out.far.ints hB (farL_length _ _).symm (by unfold maxLen; omega)
      have HE : Hid (Below w.heap.size w wr) := HS.out.bl
      go_wp2
      go_ret
      exact ⟨_, _, rfl, HF.out.far, HI, HE⟩
    | cons a q =>
      obtain ⟨gq, oq, cq, rfl, hq1, hq2⟩ := HS.out.row.slc
      obtain ⟨hd, hgq⟩ := HS.out.row.head
      have HP : Hid (QAt wr (b + 1) (.slice (if cq = 1 then some ⟨gq, oq, none⟩ else some ⟨gq, oq + 1, none⟩) q.length (cq - 1)) q) := HS.out.row.pop
      simp only [List.length_cons] at hq1
      have hmx : cq ≤ 9223372036854775807 := by unfold maxLen at hq2; omega
      go_upto_region 7 with fail
      obtain ⟨pv, hpv⟩ : ∃ pv, pv = (if cq = 1 then some ⟨gq, oq, none⟩ else some ⟨gq, oq + 1, none⟩ : Option Addr) := ⟨_, rfl⟩
      rw [← hpv] at HP ⊢
      have HMid : Hid (Mid n l g a 0 f q) := HF.out.pop
      have HFS : Hid (FarSt n l b w (.slice pv q.length (cq - 1)) f q wr) := ⟨HS.out.low, HP.out, HS.out.far, HS.out.bl⟩
      have HM0 : Hid (2 * unset n f + q.length + 1 ≤ gk ∧ gk ≤ 128) := by have := HM.out; simp only [List.length_cons] at this; show _ ∧ _; omega
      have han : a < n := HMid.out.me.2
      clear hpv HP HS HF HM hd hgq
      go_wp2
      go_loopw [8, 30] (fun x i wr => ∃ (k : Nat) (f : Nat → Int) (q : List Nat), k ≤ l.length ∧ i = .int .i64 k ∧ Hid (Mid n l g a k f q) ∧ Hid (FarSt n l b w x f q wr) ∧ Hid (2 * unset n f + q.length + 1 ≤ gk ∧ gk ≤ 128)) (fun _ i _ => l.length - (intOf i).toNat)
      case atStart => exact ⟨0, f, q, Nat.zero_le _, rfl, HMid, HFS, HM0⟩
      case round =>
        clear HMid HFS HM0
        obtain ⟨k, f, q, hk, rfl, HMid, HFS, HM0⟩ := hrel
        obtain ⟨gq, oq, cq, rfl, hq1, hq2⟩ := HFS.out.row.slc
        by_cases hlt : k < l.length
        · obtain ⟨t, ht⟩ : ∃ t, l[k]? = some t := ⟨_, List.getElem?_eq_getElem hlt⟩
          obtain ⟨g1, o1, hp, hg1, a0, a1, a2⟩ := (HA.out.any HFS.out.bl).at ht
          subst hp
          have htm := List.mem_of_getElem? ht
          have hed := edB_lt (List.all_eq_true.1 HL.out t htm)
          obtain ⟨t0, t1, t2⟩ := t
          simp only at a0 a1 a2 hed
          obtain ⟨x, rfl⟩ : ∃ x : Nat, t0 = (x : Int) := ⟨t0.toNat, by omega⟩
          obtain ⟨y, rfl⟩ : ∃ y : Nat, t1 = (y : Int) := ⟨t1.toNat, by omega⟩
          have hx : x < n := by omega
          have HT : Hid (l[k]? = some ((x : Int), (y : Int), t2)) := ht
          obtain ⟨V, hV⟩ : ∃ V, V = wr.alloc (.cells #[.int .i64 (x : Int), .int .i64 (y : Int), .bool t2] 63) := ⟨_, rfl⟩
          have hVb : Below wr.heap.size wr V := by rw [hV]; exact bel1 _ _
          have q0 : V.cell? ⟨wr.heap.size, 0, none⟩ = some (.int .i64 (x : Int)) := by rw [hV]; exact World.cell?_alloc_at _ _ _ _ rfl
          have q1 : V.cell? ⟨wr.heap.size, 1, none⟩ = some (.int .i64 (y : Int)) := by rw [hV]; exact World.cell?_alloc_at _ _ _ _ rfl
          have zV := HFS.out.far.keep hVb
          have cx := zV.cell (farL_at f hx)
          have ca := zV.cell (farL_at f han)
          have fzx := zV.frozen x
          have hbn : b < wr.heap.size := HFS.out.far.lt
          have HV : Hid (FarSt n l b w (.slice (some ⟨gq, oq, none⟩) q.length cq) f q V) := ⟨HFS.out.low, HFS.out.row.any hVb, zV, HFS.out.bl.trans (hVb.mono HFS.out.bl.size)⟩
          have hsV : V.heap.size = wr.heap.size + 1 := by rw [hV]; simp
          obtain ⟨nb, hnb⟩ : ∃ nb, nb = wr.heap.size := ⟨_, rfl⟩
          have HNB : Hid (V.heap.size = nb + 1) := by rw [hnb]; exact hsV
          rw [← hnb] at q0 q1 hbn
          have cxw := HFS.out.far.cell (farL_at f hx)
          have caw := HFS.out.far.cell (farL_at f han)
          have hbw : b < wr.heap.size := HFS.out.far.lt
          clear ht htm hed hVb zV hsV
          by_cases c1 : y = a
          · subst c1
            by_cases c2 : f x = -1
            · rw [c2] at cx cxw
              have hza := HMid.out.me.1
              have hzb := HV.out.low y
              obtain ⟨za, hz⟩ : ∃ za, za = f y := ⟨_, rfl⟩
              rw [← hz] at ca caw hza hzb
              have hzc : za ≤ 100 := by omega
              obtain ⟨U, hU⟩ : ∃ U, U = (V.setCell ⟨b, x, none⟩ (.int .i64 (za + 1))).drew := ⟨_, rfl⟩
              have hne : (⟨nb, 0, none⟩ : Addr).block ≠ b := by show nb ≠ b; omega
              have r0 : U.cell? ⟨nb, 0, none⟩ = some (.int .i64 (x : Int)) := by
                rw [hU]; exact (World.cell?_of_block (w := V) (w' := V.setCell ⟨b, x, none⟩ (.int .i64 (za + 1))) (a := ⟨nb, 0, none⟩) (Go.Deep.blk_setCell_other _ _ _ _ hne)).trans q0
              have hsU : U.heap.size = nb + 1 := by rw [hU]; exact (Go.Deep.nblk_setCell V _ _).trans HNB.out
              obtain ⟨X, hX⟩ : ∃ X, X = U.alloc (.cells #[.int .i64 (x : Int)] 3) := ⟨_, rfl⟩
              have hzX : ZAt U b (farL n (putZ f x (za + 1))) := by
                have := ZAt.put (w := V) HV.out.far x (za + 1)
                rw [farL_put _ hx] at this
                rw [hU]; exact this
              have hqU : QAt U (b + 1) (.slice (some ⟨gq, oq, none⟩) q.length cq) q := by
                rw [hU]
                exact QAt.keep (w := V) HV.out.row fun j hj _ => Go.Deep.blk_setCell_other _ _ _ _ (by show j ≠ b; omega)
              have hbU : Below w.heap.size w U := by rw [hU]; exact (bel_set HV.out.bl hB).drew
              have hXb : Below U.heap.size U X := by rw [hX]; exact bel1 _ _
              have hqX : QAt X (b + 1) (.slice (some ⟨gq, oq, none⟩) q.length cq) q := hqU.any hXb
              have hlq : q.length ≤ 100000 := by have := HM0.out; omega
              obtain ⟨v', w', hr, hq', hb'⟩ := hqX.append (by have := hXb.size; omega) (h0 := nb + 1) (z := x) (by rw [hX, ← hsU]; exact World.cell?_alloc_at _ _ _ _ rfl) hlq
              have HF' : Hid (FarSt n l b w v' (putZ f x (za + 1)) (q ++ [x]) w') := by
                refine ⟨?_, hq', ?_, ?_⟩
                · rw [hz] at hza ⊢; exact low_push HV.out.low hx c2 hza
                · exact (hzX.keep hXb).blk (hb'.block b (Nat.lt_succ_self _))
                · exact (hbU.trans (hXb.mono hbU.size)).trans (hb'.mono (by omega))
              have HM' : Hid (Mid n l g y (k + 1) (putZ f x (za + 1)) (q ++ [x])) := by
                have := HMid.out.push HL.out HT.out rfl (by simpa using c2)
                rw [hz]
                rw [Int.toNat_natCast] at this
                exact this
              have HG' : Hid (2 * unset n (putZ f x (za + 1)) + (q ++ [x]).length + 1 ≤ gk ∧ gk ≤ 128) := by
                have h1 := unset_put (n := n) (f := f) (v := x) (z := za + 1) hx c2 (by omega)
                have h2 := HM0.out
                show _ ∧ _
                simp only [List.length_append, List.length_cons, List.length_nil]; omega
              obtain ⟨g2, o2, c3, hv', -, -⟩ := hq'.slc
              obtain ⟨m2, hm2⟩ : ∃ m2, m2 = (q ++ [x]).length := ⟨_, rfl⟩
              rw [← hm2] at hv'
              subst hv'
              rw [hX] at hr
              clear hX hqX hXb hq' hb' hqU hzX hbU hz hm2
              go_wp2
              rw [← hV, ← hnb]
              clear hV hnb
              go_region
              all_goals
                rw [← hU]
                clear hU
                go_wp2_with (at_builtin; refine wpList_run_append rfl _ _ 45 rfl _ _ rfl rfl hr ?_)
                go_roundw
                case rel => (repeat apply Exists.intro); exact ⟨⟨k + 1, _, _, by omega, by go_num, HM', HF', HG'⟩, rfl⟩
                case measure => simp [intOf]; omega
            · have HM' : Hid (Mid n l g y (k + 1) f q) := HMid.out.pass HT.out (Or.inr (by simpa using c2))
              obtain ⟨zx, hz⟩ : ∃ zx, zx = f x := ⟨_, rfl⟩
              rw [← hz] at cx cxw c2
              have c3 : (zx == -1) = false := by simpa using c2
              clear hz
              go_wp2
              rw [← hV]
              go_roundw
              case rel => exact ⟨k + 1, _, _, by omega, by go_num, HM', HV, HM0⟩
              case measure => simp [intOf]; omega
          · have HM' : Hid (Mid n l g a (k + 1) f q) := HMid.out.pass HT.out (Or.inl (by simpa using c1))
            have c3 : ((y : Int) == (a : Int)) = false := by simp; omega
            clear cx ca cxw caw
            go_wp2
            rw [← hV]
            go_roundw
            case rel => exact ⟨k + 1, _, _, by omega, by go_num, HM', HV, HM0⟩
            case measure => simp [intOf]; omega
        · obtain rfl : k = l.length := by omega
          have HB' : Hid (Bfs n l g f q) := HMid.out.fin
          go_wp2
          go_roundg (gk - 1)
          case measure => have := HM0.out; omega
          case rel => exact ⟨f, q, HB', HFS, by have := HM0.out; show _ ∧ _; omega⟩
end Go.Proofs.Ytkihbgikdbaelaa
/- nearer, with its closure and slices.IndexFunc; cycle of strata. -/
namespace Go.Proofs.Ytkihbgikdbaelaa
set_option linter.unusedVariables false
open Go.ChangeShapes Go.WideShapes Go.ChangeAt Go.RowKit

theorem bel_drewN {B k : Nat} {W w' : World} (h : Below B W w') : Below B W (w'.drewN k) := ⟨h.os, h.tape, h.output, h.size, h.block⟩
set_option maxHeartbeats 2000000 in
theorem near1_any (n a x y : Nat) (f : Nat → Int) (t2 : Bool) (u : Value) (w : World) {F : Nat → Prop} (pa pf : Nat) (ha : a < n) (hx : x < n) (hy : y < n) (hn : n ≤ 64) (hf : ∀ i, -1 ≤ f i ∧ f i ≤ 1000) (iu : IsInts w F u (farL n f)) (ca : w.cell? ⟨pa, 0, none⟩ = some (.int .i64 (a : Int))) (cf : w.cell? ⟨pf, 0, none⟩ = some u) (la : pa < w.heap.size) (lf : pf < w.heap.size) :
    Calls Try.prog 53 #[.agg #[.int .i64 (x : Int), .int .i64 (y : Int), .bool t2], .pointer (some ⟨pa, 0, none⟩), .pointer (some ⟨pf, 0, none⟩)] w fun e w' => e = .returned (.bool (decide (x = a) && decide (f y = f a - 1))) ∧ Hid (Below w.heap.size w w') := by
  obtain ⟨p, c, hu⟩ := iu.slc
  rw [farL_length] at hu
  subst hu
  obtain ⟨g1, o1, hp, hg1, cy⟩ := iu.at (farL_at f hy)
  obtain ⟨g2, o2, hp2, hg2, cx⟩ := iu.at (farL_at f ha)
  subst hp
  simp only [Option.some.injEq, Addr.mk.injEq, and_true] at hp2
  obtain ⟨rfl, rfl⟩ := hp2
  have h1 := hf y
  have h2 := hf a
  obtain ⟨zy, hzy⟩ : ∃ z, z = f y := ⟨_, rfl⟩
  obtain ⟨za, hza⟩ : ∃ z, z = f a := ⟨_, rfl⟩
  rw [← hzy] at cy h1 ⊢
  rw [← hza] at cx h2 ⊢
  clear iu hf hzy hza
  by_cases c1 : x = a
  · subst c1
    have e0 : decide (x = x) = true := by simp
    rw [e0, Bool.true_and]
    by_cases c2 : zy = za - 1
    · have c3 : (zy == za - 1) = true := by simpa using c2
      have e1 : decide (zy = za - 1) = true := by simpa using c2
      rw [e1]
      clear c2 e1
      go_enter Try.func53, Try.ntmps53
      go_wp2
      go_quiet (fail)
      go_wp2
      go_ret
      exact ⟨rfl, bel_drewN (bel1 w _)⟩
    · have c3 : (zy == za - 1) = false := by simpa using c2
      have e1 : decide (zy = za - 1) = false := by simpa using c2
      rw [e1]
      clear c2 e1
      go_enter Try.func53, Try.ntmps53
      go_wp2
      go_quiet (fail)
      go_wp2
      go_ret
      exact ⟨rfl, bel_drewN (bel1 w _)⟩
  · have c3 : ((x : Int) == (a : Int)) = false := by simp; omega
    have e1 : decide (x = a) = false := by simpa using c1
    rw [e1, Bool.false_and]
    clear e1
    go_enter Try.func53, Try.ntmps53
    go_wp2
    go_quiet (fail)
    go_wp2
    go_ret
    exact ⟨rfl, bel_drewN (bel1 w _)⟩
theorem find_at {l : List Ed} {p : Ed → Bool} {k : Nat} {t : Ed} (h : ∀ j e, j < k → l[j]? = some e → p e = false) (ht : l[k]? = some t) (hp : p t = true) : l.find? p = some t := by
  rw [List.find?_eq_some_iff_append]
  refine ⟨hp, l.take k, l.drop (k + 1), ?_, fun a ha => ?_⟩
  · have h1 := (List.take_append_drop k l).symm
    rw [List.drop_eq_getElem?_toList_append (l := l) (i := k), ht] at h1
    exact h1
  · obtain ⟨j, hj⟩ := List.mem_iff_getElem?.1 ha
    rw [List.getElem?_take] at hj
    split at hj
    · rename_i hjk
      simp [h j a hjk hj]
    · cases hj
set_option maxHeartbeats 4000000 in
set_option maxRecDepth 100000 in
theorem index_any (n a : Nat) (f : Nat → Int) (u v : Value) (l : List Ed) (w : World) {F G : Nat → Prop} (pa pf : Nat) (iv : IsEds w G v l) (hl : edsB (n : Int) l = true) (ha : a < n) (hn : n ≤ 64) (hf : ∀ i, -1 ≤ f i ∧ f i ≤ 1000) (iu : IsInts w F u (farL n f)) (ca : w.cell? ⟨pa, 0, none⟩ = some (.int .i64 (a : Int))) (cf : w.cell? ⟨pf, 0, none⟩ = some u) (la : pa < w.heap.size) (lf : pf < w.heap.size) (hex : ∃ e, l.find? (nextE l f a) = some e) :
    Calls Try.prog 52 #[v, .func (.func 53) #[] #[.pointer (some ⟨pa, 0, none⟩), .pointer (some ⟨pf, 0, none⟩)]] w fun e w' => ∃ (k : Nat) (t : Ed), e = .returned (.int .i64 (k : Int)) ∧ l[k]? = some t ∧ l.find? (nextE l f a) = some t ∧ Hid (Below w.heap.size w w') := by
  have KN : Hid (∀ w', Below w.heap.size w w' → ∀ x y t2, x < n → y < n → Calls Try.prog 53 #[.agg #[.int .i64 (x : Int), .int .i64 (y : Int), .bool t2], .pointer (some ⟨pa, 0, none⟩), .pointer (some ⟨pf, 0, none⟩)] w' fun e w'' => e = .returned (.bool (decide (x = a) && decide (f y = f a - 1))) ∧ Hid (Below w'.heap.size w' w'')) := fun w' hb x y t2 hx hy =>
    near1_any n a x y f t2 u w' pa pf ha hx hy hn hf (iu.any hb) ((hb.cell (p := ⟨_, _, none⟩) la).trans ca) ((hb.cell (p := ⟨_, _, none⟩) lf).trans cf) (Nat.lt_of_lt_of_le la hb.size) (Nat.lt_of_lt_of_le lf hb.size)
  obtain ⟨p, cp, rfl⟩ := iv.slc
  have hm9 : l.length ≤ 9223372036854775807 := by have := iv.len; unfold maxLen at this; omega
  have HV : Hid (IsEds w G (.slice p l.length cp) l) := iv
  have HL : Hid (edsB (n : Int) l = true) := hl
  have HX : Hid (∃ e, l.find? (nextE l f a) = some e) := hex
  clear iv hl iu ca cf hex
  go_enter Try.func52, Try.ntmps52
  go_wp2
  go_loopw [8] (fun i wr => ∃ k : Nat, k ≤ l.length ∧ i = .int .i64 k ∧ Hid (Below w.heap.size w wr) ∧ Hid (∀ j e, j < k → l[j]? = some e → nextE l f a e = false)) (fun i _ => l.length - (intOf i).toNat)
  case atStart => exact ⟨0, Nat.zero_le _, rfl, Below.refl _ _, fun j e hj => by omega⟩
  case round =>
    obtain ⟨k, hk, rfl, HB, HN⟩ := hrel
    by_cases hlt : k < l.length
    · obtain ⟨t, ht⟩ : ∃ t, l[k]? = some t := ⟨_, List.getElem?_eq_getElem hlt⟩
      obtain ⟨g1, o1, hp, hg1, a0, a1, a2⟩ := (HV.out.any HB.out).at ht
      subst hp
      have hed := edB_lt (List.all_eq_true.1 HL.out t (List.mem_of_getElem? ht))
      obtain ⟨t0, t1, t2⟩ := t
      simp only at a0 a1 a2 hed
      obtain ⟨x, rfl⟩ : ∃ x : Nat, t0 = (x : Int) := ⟨t0.toNat, by omega⟩
      obtain ⟨y, rfl⟩ : ∃ y : Nat, t1 = (y : Int) := ⟨t1.toNat, by omega⟩
      have KC := KN.out wr HB.out x y t2 (by omega) (by omega)
      have HT : Hid (l[k]? = some ((x : Int), (y : Int), t2)) := ht
      have HE : Hid (nextE l f a ((x : Int), (y : Int), t2) = (decide (x = a) && decide (f y = f a - 1))) := by show _ = _; unfold nextE; simp only [Int.toNat_natCast]
      clear ht hed
      cases hc : (decide (x = a) && decide (f y = f a - 1)) with
      | true =>
        have HF : Hid (l.find? (nextE l f a) = some ((x : Int), (y : Int), t2)) := find_at HN.out HT.out (by rw [HE.out, hc])
        rw [hc] at KC
        clear hc
        go_wp2_with (go_at_call 53; refine KC.mono ?_; rintro e w1 ⟨rfl, b1⟩)
        go_ret
        exact ⟨k, _, rfl, HT.out, HF.out, HB.out.trans (b1.out.mono HB.out.size)⟩
      | false =>
        have HN2 : Hid (∀ j e, j < k + 1 → l[j]? = some e → nextE l f a e = false) := fun j e hj he => by
          by_cases x : j = k
          · subst x
            rw [HT.out] at he
            cases he
            rw [HE.out, hc]
          · exact HN.out j e (by omega) he
        rw [hc] at KC
        clear hc
        go_wp2_with (go_at_call 53; refine KC.mono ?_; rintro e w1 ⟨rfl, b1⟩)
        go_roundw
        case rel => exact ⟨k + 1, by omega, by go_num, HB.out.trans (b1.out.mono HB.out.size), HN2⟩
        case measure => simp [intOf]; omega
    · obtain rfl : k = l.length := by omega
      exfalso
      obtain ⟨e, he⟩ := HX.out
      have h1 := List.find?_some he
      obtain ⟨j, hj⟩ := List.mem_iff_getElem?.1 (List.mem_of_find?_eq_some he)
      rw [HN.out j e (List.getElem?_eq_some_iff.1 hj).1 hj] at h1
      cases h1
set_option maxHeartbeats 4000000 in
set_option maxRecDepth 100000 in
theorem nearer_any (n a : Nat) (f : Nat → Int) (u v : Value) (l : List Ed) (w : World) {F G : Nat → Prop} (iv : IsEds w G v l) (hl : edsB (n : Int) l = true) (ha : a < n) (hn : n ≤ 64) (hf : ∀ i, -1 ≤ f i ∧ f i ≤ 1000) (iu : IsInts w F u (farL n f)) (hex : ∃ e, l.find? (nextE l f a) = some e) :
    Calls Try.prog 35 #[v, u, .int .i64 (a : Int)] w fun e w' => e = .returned (.int .i64 ((nxt l f a : Nat) : Int)) ∧ Hid (Below w.heap.size w w') := by
  obtain ⟨W1, hW1⟩ : ∃ W1, W1 = (w.alloc (.cells #[u] 45)).alloc (.cells #[.int .i64 (a : Int)] 3) := ⟨_, rfl⟩
  have hb1 : Below w.heap.size w W1 := by rw [hW1]; exact bel_alloc (bel1 _ _)
  have KI := index_any n a f u v l W1 (w.heap.size + 1) w.heap.size (iv.any hb1) hl ha hn hf (iu.any hb1)
    (by rw [hW1, show (w.heap.size + 1) = (w.alloc (.cells #[u] 45)).heap.size by simp]
        exact World.cell?_alloc_at _ _ _ _ rfl)
    (by rw [hW1]
        refine ((bel1 (w.alloc (.cells #[u] 45)) _).cell (p := ⟨w.heap.size, 0, none⟩) (by simp)).trans ?_
        exact World.cell?_alloc_at _ _ _ _ rfl)
    (by rw [hW1]; simp) (by rw [hW1]; simp; omega) hex
  obtain ⟨p, cp, rfl⟩ := iv.slc
  obtain ⟨p2, cp2, hu⟩ := iu.slc
  have hm9 : l.length ≤ 9223372036854775807 := by have := iv.len; unfold maxLen at this; omega
  have HV : Hid (IsEds w G (.slice p l.length cp) l) := iv
  have HB1 : Hid (Below w.heap.size w W1) := hb1
  have HL : Hid (edsB (n : Int) l = true) := hl
  subst hu
  clear iv iu hl hex hb1
  go_enter Try.func35, Try.ntmps35
  go_upto_region 2 with (go_at_call 52; rw [← hW1]; refine KI.mono ?_; rintro e w2 ⟨k, t, rfl, ht, hfi, HB2⟩)
  have HB3 : Hid (Below w.heap.size w w2) := HB1.out.trans (HB2.out.mono HB1.out.size)
  obtain ⟨g1, o1, hp, hg1, a0, a1, a2⟩ := (HV.out.any HB3.out).at ht
  subst hp
  have hlt : k < l.length := (List.getElem?_eq_some_iff.1 ht).1
  have hed := edB_lt (List.all_eq_true.1 HL.out t (List.mem_of_getElem? ht))
  have HN : Hid (t.2.1 = ((nxt l f a : Nat) : Int)) := by
    show _ = _
    unfold nxt
    rw [hfi]
    simp
    omega
  clear ht hfi hed a0 a2
  go_wp2
  go_ret
  exact ⟨ret_int HN.out, HB3⟩
theorem natsV_ints (q : List Nat) : natsV q = intsV (q.map fun i => ((i : Nat) : Int)) := by simp [natsV, intsV]
set_option maxHeartbeats 4000000 in
set_option maxRecDepth 100000 in
theorem cycle_any (n x y : Nat) (t2 : Bool) (v : Value) (l : List Ed) (w : World) {F : Nat → Prop} (ha : IsEds w F v l) (hm : mayE (n : Int) l = true) (hx : x < n) (hy : y < n) (hw : Way l y x) :
    Calls Try.prog 23 #[.int .i64 (n : Int), v, .agg #[.int .i64 (x : Int), .int .i64 (y : Int), .bool t2]] w fun e w' => ∃ u f, e = .returned u ∧ Hid (FarIs l x f) ∧ Hid (IsInts w' (fun i => w.heap.size ≤ i) u (cycT l f ((x : Int), (y : Int), t2))) ∧ Hid (Below w.heap.size w w') := by
  obtain ⟨h0, h1, hl⟩ := mayE_all hm
  have hn : n ≤ 64 := by omega
  obtain ⟨W1, hW1⟩ : ∃ W1, W1 = w.alloc (.cells #[.int .i64 (x : Int), .int .i64 (y : Int), .bool t2] 63) := ⟨_, rfl⟩
  have hb1 : Below w.heap.size w W1 := by rw [hW1]; exact bel1 _ _
  have KD := distances_any n x v l W1 (ha.any hb1) hm hx
  have q0 : W1.cell? ⟨w.heap.size, 0, none⟩ = some (.int .i64 (x : Int)) := by rw [hW1]; exact World.cell?_alloc_at _ _ _ _ rfl
  have q1 : W1.cell? ⟨w.heap.size, 1, none⟩ = some (.int .i64 (y : Int)) := by rw [hW1]; exact World.cell?_alloc_at _ _ _ _ rfl
  have hz1 : w.heap.size < W1.heap.size := by rw [hW1]; simp
  have HA : Hid (IsEds w F v l) := ha
  obtain ⟨p, cp, rfl⟩ := ha.slc
  have HL : Hid (edsB (n : Int) l = true) := hl
  have HB1 : Hid (Below w.heap.size w W1) := hb1
  have HQ : Hid (∀ w', Below W1.heap.size W1 w' → w'.cell? ⟨w.heap.size, 0, none⟩ = some (.int .i64 (x : Int)) ∧ w'.cell? ⟨w.heap.size, 1, none⟩ = some (.int .i64 (y : Int))) := fun w' hb => ⟨(hb.cell (p := ⟨_, _, none⟩) hz1).trans q0, (hb.cell (p := ⟨_, _, none⟩) hz1).trans q1⟩
  have HW : Hid (Way l y x) := hw
  have hz2 : Hid (w.heap.size < W1.heap.size) := hz1
  obtain ⟨nb, hnb⟩ : ∃ nb, nb = w.heap.size := ⟨_, rfl⟩
  obtain ⟨i0, hi0, hzz, hzs, hzb⟩ := info_parts Try.infoInt
  clear ha hm h0 h1 hl hb1 q0 q1 hz1 hw
  go_enter Try.func23, Try.ntmps23
  go_upto_region 2 with (go_at_call 34; rw [← hW1]; refine KD.mono ?_; rintro e w2 ⟨u, f, rfl, HF, HI, HB2⟩)
  obtain ⟨c0, c1⟩ := HQ.out w2 HB2.out
  obtain ⟨p7, c7, hu⟩ := HI.out.slc
  rw [farL_length] at hu
  subst hu
  obtain ⟨d0, hd0⟩ : ∃ d : Nat, f y = (d : Int) := by
    obtain ⟨k, hk⟩ := HW.out
    rcases HF.out y with ⟨_, h⟩ | ⟨d, h, _⟩
    · exact absurd hk (h k)
    · exact ⟨d, h⟩
  have hfb : ∀ i, -1 ≤ f i ∧ f i ≤ 1000 := fun i => by
    have h1 := far_le HL.out hx HF.out i
    rcases HF.out i with ⟨h, _⟩ | ⟨d, h, _⟩ <;> omega
  have hdn : d0 ≤ 64 := by have := far_le HL.out hx HF.out y; omega
  have HFB : Hid (∀ i, -1 ≤ f i ∧ f i ≤ 1000) := hfb
  have HD0 : Hid (f y = (d0 : Int)) := hd0
  have hlt2 : w.heap.size < w2.heap.size := Nat.lt_of_lt_of_le hz2.out HB2.out.size
  have HB3 : Hid (Below w.heap.size w w2) := HB1.out.trans (HB2.out.mono HB1.out.size)
  have HO0 : Hid ((w2.alloc (.cells #[.int .i64 (x : Int)] 3)).ownsRow w2.heap.size 3 1 (.slice (some ⟨w2.heap.size, 0, none⟩) 1 1) 1 (natsV [x])) :=
    ⟨rfl, .inr ⟨w2.heap.size, 1, _, rfl, Nat.le_refl _, heap_alloc_new w2 _, Nat.le_refl _, by unfold maxLen; omega, rfl, rfl⟩⟩
  have HQ2 : Hid (∀ w', Below w2.heap.size w2 w' → w'.cell? ⟨w.heap.size, 0, none⟩ = some (.int .i64 (x : Int))) := fun w' hb => (HQ.out w' (HB2.out.trans (hb.mono HB2.out.size))).1
  have KN : Hid (∀ a w', a < n → Below w2.heap.size w2 w' → (∃ e, l.find? (nextE l f a) = some e) → Calls Try.prog 35 #[.slice p l.length cp, .slice p7 n c7, .int .i64 (a : Int)] w' fun e w'' => e = .returned (.int .i64 ((nxt l f a : Nat) : Int)) ∧ Hid (Below w'.heap.size w' w'')) := fun a w' han hb hex =>
    nearer_any n a f _ _ l w' (HA.out.any (HB3.out.trans (hb.mono HB3.out.size))) HL.out han hn HFB.out (HI.out.any hb) hex
  clear hd0 hfb hnb hW1
  go_wp2
  go_loopg [8, 9] d0 (fun gk o z wr => ∃ (a : Nat) (acc : List Nat), z = .int .i64 (a : Int) ∧ a < n ∧ gk ≤ d0 ∧ Hid (f a = (gk : Int)) ∧ Hid (acc ++ wayT l f gk a = x :: wayT l f d0 y) ∧ Hid (wr.ownsRow w2.heap.size 3 1 o acc.length (natsV acc)) ∧ Hid (Below w2.heap.size w2 wr))
  case atStart => exact ⟨y, [x], rfl, hy, Nat.le_refl _, HD0, rfl, HO0, bel1 _ _⟩
  case round =>
    obtain ⟨a, acc, rfl, han, hgk, HFA, HW2, HO, HBw⟩ := hrel
    have c2 := HQ2.out wr HBw.out
    have hal : acc.length + gk = 1 + d0 := by
      have := congrArg List.length HW2.out
      simp only [List.length_append, List.length_cons, wayT_length] at this
      omega
    obtain ⟨p8, c8, ho⟩ := row_slice HO.out
    subst ho
    clear c0 c1
    cases gk with
    | zero =>
      have hax : a = x := HF.out.zero HFA.out
      subst hax
      have HI2 : Hid (IsInts wr (fun i => w.heap.size ≤ i) (.slice p8 acc.length c8) (cycT l f ((a : Int), (y : Int), t2))) := by
        have h1 := Reads.of (F := fun i => w.heap.size ≤ i) HO.out (fun b hb => by have := (HO.out.lt b hb).1; have := HB3.out.size; show _ ≤ _; omega)
        have h2 : acc = a :: wayT l f d0 y := by have := HW2.out; simpa [wayT] using this
        show Reads _ _ _ _ _
        unfold cycT
        simp only [Int.toNat_natCast]
        rw [HD0.out, Int.toNat_natCast, ← natsV_ints, ← h2]
        simpa using h1
      have HE : Hid (Below w.heap.size w wr) := HB3.out.trans (HBw.out.mono HB3.out.size)
      clear hal
      go_wp2
      go_ret
      exact ⟨_, f, rfl, HF, HI2, HE⟩
    | succ m =>
      have hax : ¬ a = x := fun e => by
        have h1 := HF.out.goal
        have h2 := HFA.out
        rw [e, h1] at h2; omega
      have c3 : ((a : Int) == (x : Int)) = false := by simp; omega
      obtain ⟨e9, hfi, he9, h9a, h9b, h9c⟩ := HF.out.next HFA.out
      have HEX : Hid (∃ e, l.find? (nextE l f a) = some e) := ⟨e9, hfi⟩
      have HNX : Hid (f (nxt l f a) = (m : Int) ∧ nxt l f a < n) := ⟨by rw [h9c]; exact h9b, by rw [h9c]; exact (eds_lt HL.out he9).2⟩
      have HW3 : Hid ((acc ++ [a]) ++ wayT l f m (nxt l f a) = x :: wayT l f d0 y) := by show _ = _; rw [← HW2.out, List.append_assoc]; rfl
      have HSV : Hid (natsV (acc ++ [a]) = natsV acc ++ [.int .i64 (a : Int)]) := by show _ = _; simp [natsV]
      have MX : acc.length + 1 ≤ maxLen := by unfold maxLen; omega
      have BY : (acc.length + 1) * 8 ≤ 140737488355328 := by omega
      have BS : w2.heap.size ≤ wr.heap.size := HBw.out.size
      clear hfi he9 h9a h9b h9c hal hax
      go_wp2_with (at_builtin; refine wpList_append_own _ rfl _ _ 45 rfl w2.heap.size 3 i0 (.int .i64 0) 1 8 Try.underlying45 hi0 hzz hzs hzb rfl (by decide) _ _ _ rfl (HO.out.alloc _) ⟨wr.heap.size, 0, none⟩ 1 1 [.int .i64 (a : Int)] rfl rfl (news1 wr _ _) ?c2 MX BY ?c5 ?_)
      case c2 => intro u hu; simp at hu; subst hu; rfl
      case c5 => simp; omega
      intro v' w3 hown' hgrow _
      have HO3 : Hid (w3.ownsRow w2.heap.size 3 1 v' (acc.length + 1) (natsV (acc ++ [a]))) := by show World.ownsRow _ _ _ _ _ _ _; rw [HSV.out]; exact hown'
      have HB3w : Hid (Below w2.heap.size w2 w3) := (HBw.out.alloc HBw.out.size _).grown hgrow (by simp; omega) (fun g hg => (HO.out.lt g hg).1)
      obtain ⟨p9, c9, hv9⟩ := row_slice hown'
      subst hv9
      clear hown' hgrow
      have KC := KN.out a w3 han HB3w.out HEX.out
      go_wp2_with (go_at_call 35; refine KC.mono ?_; rintro e w4 ⟨rfl, b4⟩)
      have HO4 : Hid (w4.ownsRow w2.heap.size 3 1 (.slice p9 (acc.length + 1) c9) (acc ++ [a]).length (natsV (acc ++ [a]))) := by
        show World.ownsRow _ _ _ _ _ _ _
        rw [List.length_append]
        exact row_keep HO3.out b4.out
      go_roundg m
      case measure => omega
      case rel => exact ⟨nxt l f a, acc ++ [a], rfl, HNX.out.2, by omega, HNX.out.1, HW3, HO4, HB3w.out.trans (b4.out.mono HB3w.out.size)⟩
end Go.Proofs.Ytkihbgikdbaelaa
