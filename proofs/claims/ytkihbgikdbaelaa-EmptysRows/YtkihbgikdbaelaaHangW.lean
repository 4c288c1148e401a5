/- walk, Comps of the program, against their plain functions; rows of numbers held against one another. -/
import Derived.Test.YtkihbgikdbaelaaHangM
namespace Go.Proofs.Ytkihbgikdbaelaa
set_option linter.unusedVariables false
open Go.ChangeShapes Go.WideShapes Go.ChangeAt Go.RowKit

theorem results_cell {fn : Func} {p : Tmp} {ty : TypeId} (h : fn.results = #[.cell p ty]) (tmps : Array Value) (P : Program) (w : World) :
    (results fn tmps).run P w = ((asAddr (tmps.getD p undef)).run P w).andThen fun a w₁ => (loadVar ty a).run P w₁ := by
  simp only [results, h]
  simp [Sem.run_bind, Result.andThen]
theorem setCells_below {B b : Nat} {w : World} (hB : B ≤ b) : ∀ (vs : List Value) (o : Nat) (w' : World), Below B w w' → Below B w (w'.setCells b o vs)
  | [], _, _, h => h
  | v :: vs, o, w', h => by
    rw [World.setCells]
    exact setCells_below hB vs (o + 1) _ (h.setCell (p := ⟨b, o, none⟩) hB v)
/-- The two arrays of walk: its result, still empty, and its rows r. -/
structure Wk (w : World) (r : Nat → Nat) (wr : World) : Prop where
  rw : RwAt wr (w.heap.size + 1) r
  z : RwAt wr w.heap.size zR
  bl : Below w.heap.size w wr
  ok : okR r
theorem Wk.only {w wr w' : World} {r r' : Nat → Nat} (h : Wk w r wr) (h1 : RwAt w' (w.heap.size + 1) r') (h2 : Only (w.heap.size + 1) wr w') (h3 : okR r') : Wk w r' w' :=
  ⟨h1, h.z.blk (h2.block _ (by omega)), h.bl.trans (h2.below (Nat.le_succ _)), h3⟩
theorem Wk.alloc {w wr : World} {r : Nat → Nat} (h : Wk w r wr) (o : Obj) : Wk w r (wr.alloc o) :=
  ⟨h.rw.keep (bel1 _ _), h.z.keep (bel1 _ _), h.bl.alloc (Nat.le_of_lt h.z.lt) o, h.ok⟩
theorem Wk.new (w : World) : Wk w (selfR 0) ((w.alloc (.cells (rowsA zR) 95)).alloc (.cells (rowsA zR) 95)) := by
  have e : (w.alloc (.cells (rowsA zR) 95)).heap.size = w.heap.size + 1 := by simp
  refine ⟨?_, (RwAt.new w zR).keep (bel1 _ _), (bel1 _ _).alloc (by simp) _, okR_self 0 (by omega)⟩
  have := RwAt.new (w.alloc (.cells (rowsA zR) 95)) zR
  rw [e] at this
  exact this
theorem take_edg {l : List Ed} {k : Nat} {t : Ed} (ht : l[k]? = some t) (r : Nat → Nat) : edgR r (l.take (k + 1)) = addR (edgR r (l.take k)) t.1.toNat t.2.1.toNat := by
  rw [List.take_add_one, ht]; exact edgR_snoc _ _ _
set_option maxHeartbeats 8000000 in
set_option maxRecDepth 100000 in
theorem walk_any (n : Nat) (v : Value) (l : List Ed) (w : World) {F : Nat → Prop} (ha : IsEds w F v l) (hm : mayE (n : Int) l = true) :
    Calls Try.prog 49 #[.int .i64 (n : Int), v] w fun e w' => e = .returned (.agg (rowsA (walkT n l))) ∧ Hid (Below w.heap.size w w') := by
  obtain ⟨p, cp, rfl⟩ := ha.slc
  have HA : Hid (IsEds w F (.slice p l.length cp) l) := ha
  have hm9 : l.length ≤ 9223372036854775807 := by have := ha.len; unfold maxLen at this; omega
  have hn : n ≤ 64 := by have := mayE_all hm; omega
  have HM : Hid (edsB (n : Int) l = true) := (mayE_all hm).2.2
  clear ha hm
  go_enter Try.func49, Try.ntmps49
  go_wp2
  simp only [zero_rows]
  go_loopw [12] (fun x wr => ∃ k : Nat, k ≤ n ∧ x = .int .i64 k ∧ Hid (Wk w (selfR k) wr)) (fun x _ => n - (intOf x).toNat)
  case atStart => exact ⟨0, Nat.zero_le _, rfl, Wk.new w⟩
  case round =>
    obtain ⟨k, hk, rfl, HK⟩ := hrel
    by_cases hlt : k < n
    · have KA : Calls Try.prog 70 #[.pointer (some ⟨w.heap.size + 1, 0, none⟩), .int .i64 (k : Int), .int .i64 (k : Int)] wr fun e w' => e = .returned (.tuple #[]) ∧ Hid (Wk w (selfR (k + 1)) w') :=
        (add7_any k k HK.out.rw HK.out.ok (by omega) (by omega)).mono fun e w' ⟨h1, h2, h3⟩ => ⟨h1, HK.out.only h2.out h3.out (okR_self _ (by omega))⟩
      go_wp2_with (go_at_call 70; refine KA.mono ?_; rintro e w1 ⟨rfl, HK1⟩)
      go_roundw
      case rel => exact ⟨k + 1, by omega, by go_num, HK1⟩
      case measure => simp [intOf]; omega
    · obtain rfl : k = n := by omega
      obtain ⟨V, hV⟩ : ∃ V, V = wr := ⟨_, rfl⟩
      subst hV
      go_wp2
      go_loopw [21] (fun x wr => ∃ q : Nat, q ≤ l.length ∧ x = .int .i64 q ∧ Hid (Wk w (edgR (selfR k) (l.take q)) wr)) (fun x _ => l.length - (intOf x).toNat)
      case atStart => exact ⟨0, Nat.zero_le _, rfl, HK⟩
      case round =>
        obtain ⟨q, hq, rfl, HQ⟩ := hrel
        by_cases hlq : q < l.length
        · obtain ⟨t, ht⟩ : ∃ t, l[q]? = some t := ⟨_, List.getElem?_eq_getElem hlq⟩
          obtain ⟨g1, o1, hp, -, a0, a1, a2⟩ := (HA.out.any HQ.out.bl).at ht
          subst hp
          have hed := edB_lt (List.all_eq_true.1 HM.out t (List.mem_of_getElem? ht))
          obtain ⟨t0, t1, t2⟩ := t
          simp only at a0 a1 a2 hed
          obtain ⟨x, rfl⟩ : ∃ x : Nat, t0 = (x : Int) := ⟨t0.toNat, by omega⟩
          obtain ⟨y, rfl⟩ : ∃ y : Nat, t1 = (y : Int) := ⟨t1.toNat, by omega⟩
          have HE : Hid (edgR (selfR k) (l.take (q + 1)) = addR (edgR (selfR k) (l.take q)) x y) := take_edg ht _
          have KA : Hid (∀ o, Calls Try.prog 70 #[.pointer (some ⟨w.heap.size + 1, 0, none⟩), .int .i64 (x : Int), .int .i64 (y : Int)] (wr.alloc o) fun e w' => e = .returned (.tuple #[]) ∧ Hid (Wk w (edgR (selfR k) (l.take (q + 1))) w')) := fun o =>
            (add7_any x y (HQ.out.alloc o).rw HQ.out.ok (by omega) (by omega)).mono fun e w' ⟨h1, h2, h3⟩ => ⟨h1, by
              show Wk _ _ _
              rw [HE.out]
              exact (HQ.out.alloc o).only h2.out h3.out (okR_add HQ.out.ok _ (by omega))⟩
          clear ht hed
          go_wp2_with (go_at_call 70; refine (KA.out _).mono ?_; rintro e w1 ⟨rfl, HK1⟩)
          go_roundw
          case rel => exact ⟨q + 1, by omega, by go_num, HK1⟩
          case measure => simp [intOf]; omega
        · obtain rfl : q = l.length := by omega
          obtain ⟨r0, hr0⟩ : ∃ r0, r0 = edgR (selfR k) l := ⟨_, rfl⟩
          have HT : Hid (walkT k l = walR r0 k k) := by show _ = _; rw [hr0]; rfl
          rw [List.take_length, ← hr0] at HQ
          clear hr0
          obtain ⟨V, hV⟩ : ∃ V, V = wr := ⟨_, rfl⟩
          subst hV
          go_wp2
          go_loopw [32] (fun x wr => ∃ m : Nat, m ≤ k ∧ x = .int .i64 m ∧ Hid (Wk w (walR r0 k m) wr)) (fun x _ => k - (intOf x).toNat)
          case atStart => exact ⟨0, Nat.zero_le _, rfl, HQ⟩
          case round =>
            obtain ⟨m, hm, rfl, HX⟩ := hrel
            by_cases hlm : m < k
            · obtain ⟨r1, hr1⟩ : ∃ r1, r1 = walR r0 k m := ⟨_, rfl⟩
              have HR1 : Hid (walR r0 k (m + 1) = rowR r1 m k) := by show _ = _; rw [hr1]; rfl
              rw [← hr1] at HX
              clear hr1
              obtain ⟨V, hV⟩ : ∃ V, V = wr := ⟨_, rfl⟩
              subst hV
              go_wp2
              go_loopw [36] (fun x wr => ∃ f : Nat, f ≤ k ∧ x = .int .i64 f ∧ Hid (Wk w (rowR r1 m f) wr)) (fun x _ => k - (intOf x).toNat)
              case atStart => exact ⟨0, Nat.zero_le _, rfl, HX⟩
              case round =>
                obtain ⟨f, hf, rfl, HY⟩ := hrel
                by_cases hlf : f < k
                · obtain ⟨r2, hr2⟩ : ∃ r2, r2 = rowR r1 m f := ⟨_, rfl⟩
                  have HR2 : Hid (rowR r1 m (f + 1) = orR r2 m f) := by show _ = _; rw [hr2]; rfl
                  rw [← hr2] at HY
                  clear hr2
                  cases e0 : bit r2 f m with
                  | false =>
                    have HZ : Hid (Wk w (rowR r1 m (f + 1)) wr) := by
                      show Wk _ _ _
                      rw [HR2.out, show orR r2 m f = r2 from if_neg (by rw [e0]; simp)]
                      exact HY.out
                    go_wp2_with (go_at_call 71; refine (has7_any _ _ HY.out.rw HY.out.ok ?_ ?_).mono ?_; omega; omega; rintro e w1 ⟨rfl, rfl⟩; rw [e0])
                    go_roundw
                    case rel => exact ⟨f + 1, by omega, by go_num, HZ⟩
                    case measure => simp [intOf]; omega
                  | true =>
                    have c1 := HY.out.rw.cell (k := f) (by omega)
                    have c2 := HY.out.rw.cell (k := m) (by omega)
                    have f1 := HY.out.rw.frozen f
                    have HB : Hid (bits .or .u64 ((r2 f : Nat) : Int) ((r2 m : Nat) : Int) = ((r2 f ||| r2 m : Nat) : Int)) := u64_or_nat _ _ (HY.out.ok f) (HY.out.ok m)
                    have HZ : Hid (Wk w (rowR r1 m (f + 1)) (wr.drew.setCell ⟨w.heap.size + 1, f, none⟩ (.int .u64 (bits .or .u64 ((r2 f : Nat) : Int) ((r2 m : Nat) : Int))))) := by
                      show Wk _ _ _
                      have hx : okR (orR r2 m f) := okR_or HY.out.ok m f
                      rw [HB.out, HR2.out]
                      rw [show orR r2 m f = putR r2 f (r2 f ||| r2 m) from if_pos e0] at hx ⊢
                      exact HY.out.only (RwAt.put (w := wr.drew) HY.out.rw (by omega) _) ((Only.drew _ _).set _ _) hx
                    go_wp2_with (go_at_call 71; refine (has7_any _ _ HY.out.rw HY.out.ok ?_ ?_).mono ?_; omega; omega; rintro e w1 ⟨rfl, rfl⟩; rw [e0])
                    go_region
                    all_goals
                      go_wp2
                      go_roundw
                      case rel => exact ⟨f + 1, by omega, by go_num, HZ⟩
                      case measure => simp [intOf]; omega
                · obtain rfl : f = k := by omega
                  go_wp2
                  go_roundw
                  case rel => exact ⟨m + 1, by omega, by go_num, by rw [HR1.out]; exact HY⟩
                  case measure => simp [intOf]; omega
            · obtain rfl : m = k := by omega
              obtain ⟨r1, hr1⟩ : ∃ r1, r1 = walkT m l := ⟨_, rfl⟩
              rw [← HT.out, ← hr1] at HX
              have HR1 : Hid (r1 = walkT m l) := hr1
              clear hr1 HT
              have HW := HX.out.rw.whole
              have hz := HX.out.z.whole
              have ht : wr.there w.heap.size 0 (rowsA r1).size := fun j hj => ⟨hz.isSome j (by simpa [rowsL, rowsA] using hj), by rw [Nat.zero_add]; exact HX.out.z.frozen j⟩
              have hi : (Try.prog.info? 95).map (·.size) = some (rowsA r1).size := by rw [rowsA_size]; exact Try.infoRows
              have hi2 : (Try.prog.info? 95).map (·.size) = some (rowsL r1).length := by rw [Try.infoRows]; simp [rowsL]
              have HR : Hid ((wr.setCells w.heap.size 0 (rowsA r1).toList).rangeAt w.heap.size 0 (rowsL r1)) := World.rangeAt_setCells_same _ _ _ _ ht
              have HB : Hid (Below w.heap.size w (wr.setCells w.heap.size 0 (rowsA r1).toList)) := setCells_below (Nat.le_refl _) _ _ _ HX.out.bl
              have hld := run_loadVar_mid (P := Try.prog) _ w.heap.size 0 95 (rowsL r1) _ HR.out Try.underlying95 rfl hi2
              clear hz
              go_wp2_with (first
                | (refine wpList_load_mid rfl 95 _ rfl (w.heap.size + 1) 0 rfl (rowsL r1) _ HW Try.underlying95 rfl hi2 ?_)
                | (refine wpList_store_mid rfl 95 _ _ rfl w.heap.size 0 (rowsA r1) rfl rfl ht hi (rowsA_one r1) ?_))
              (try simp only [Exit.inBlock, Exit.then])
              refine bodyPost_ret (v := .agg (rowsA r1)) ?_ rfl ⟨congrArg (fun x => Ending.returned (.agg (rowsA x))) HR1.out, HB⟩
              rw [results_cell rfl]
              show ((asAddr (.pointer (some ⟨w.heap.size, 0, none⟩))).run Try.prog _).andThen _ = _
              simp only [asAddr, Sem.run_pure, Result.andThen]
              exact hld
def intsV (l : List Int) : List Value := l.map (Value.int .i64)
def IsInts (w : World) (F : Nat → Prop) (v : Value) (l : List Int) : Prop := Reads w F v l.length (intsV l)
theorem IsInts.any {w w' : World} {F : Nat → Prop} {v : Value} {l : List Int} (h : IsInts w F v l) (hb : Below w.heap.size w w') : IsInts w' F v l := Reads.any h hb
theorem ints_nil (w : World) (F : Nat → Prop) : IsInts w F (.slice none 0 0) [] := Reads.nil w F
theorem IsInts.slc {w : World} {F : Nat → Prop} {v : Value} {l : List Int} (h : IsInts w F v l) : ∃ p c, v = .slice p l.length c := by
  obtain ⟨p, c, e, _⟩ := h
  exact ⟨p, c, e⟩
theorem IsInts.at {w : World} {F : Nat → Prop} {p : Option Addr} {n c : Nat} {l : List Int} (h : IsInts w F (.slice p n c) l) {k : Nat} {z : Int} (hk : l[k]? = some z) : ∃ g o, p = some ⟨g, o, none⟩ ∧ g < w.heap.size ∧ w.cell? ⟨g, o + k, none⟩ = some (.int .i64 z) := by
  obtain ⟨p2, c2, e2, _, hc⟩ := h
  injection e2 with e3
  subst e3
  have hlt := (List.getElem?_eq_some_iff.1 hk).1
  obtain ⟨g, o, e9, _, hg, cc, _⟩ := hc (by omega)
  exact ⟨g, o, e9, hg, cc k _ (by unfold intsV; rw [List.getElem?_map, hk]; rfl)⟩
theorem compsT_length (n : Nat) (l : List Ed) : (compsT n l).length = n := by simp [compsT]
theorem compsT_at {n : Nat} (l : List Ed) {i : Nat} (hi : i < n) : (compsT n l)[i]? = some ((comp n l i : Nat) : Int) := by simp [compsT, hi]
def cpre (n : Nat) (l : List Ed) (k : Nat) : List Int := (List.range k).map fun i => ((comp n l i : Nat) : Int)
theorem cpre_snoc (n : Nat) (l : List Ed) (k : Nat) : cpre n l (k + 1) = cpre n l k ++ [((comp n l k : Nat) : Int)] := by simp [cpre, List.range_succ]
theorem cpre_length (n : Nat) (l : List Ed) (k : Nat) : (cpre n l k).length = k := by simp [cpre]
theorem Try.infoInt : (Try.prog.info? 3).map (fun i => (i.zero, i.size, i.bytes)) = some (some (.int .i64 0), 1, 8) := by kernel_rfl
theorem news1 (w : World) (v : Value) (t : TypeId) (j : Nat) (u : Value) (hj : [v][j]? = some u) : (w.alloc (.cells #[v] t)).cell? ((⟨w.heap.size, 0, none⟩ : Addr).add j) = some u := by
  match j, hj with
  | 0, hj => simp at hj; subst hj; simp [Addr.add]
set_option maxHeartbeats 2000000 in
theorem comps_no (n : Int) (v : Value) (l : List Ed) (w : World) {F : Nat → Prop} (ha : IsEds w F v l) (hm : mayE n l = false) :
    Calls Try.prog 33 #[.int .i64 n, v] w fun e w' => e = .returned (.tuple #[.slice none 0 0, .int .i64 700]) ∧ Hid (Below w.heap.size w w') := by
  have K1 := may7_any n v l w ha
  rw [hm] at K1
  obtain ⟨p, cp, rfl⟩ := ha.slc
  clear ha hm
  go_enter Try.func33, Try.ntmps33
  go_wp2_with (go_at_call 48; refine K1.mono ?_; rintro e w1 ⟨rfl, b1⟩)
  go_ret2
  exact ⟨rfl, b1⟩
set_option maxHeartbeats 4000000 in
set_option maxRecDepth 100000 in
theorem comps_ok (n : Nat) (v : Value) (l : List Ed) (w : World) {F : Nat → Prop} (ha : IsEds w F v l) (hm : mayE (n : Int) l = true) :
    Calls Try.prog 33 #[.int .i64 (n : Int), v] w fun e w' => ∃ u, e = .returned (.tuple #[u, .int .i64 0]) ∧ Hid (IsInts w' (fun i => w.heap.size ≤ i) u (compsT n l)) ∧ Hid (Below w.heap.size w w') := by
  have K1 := may7_any n v l w ha
  rw [hm] at K1
  have K2 : Hid (∀ w', Below w.heap.size w w' → Calls Try.prog 49 #[.int .i64 (n : Int), v] w' fun e w'' => e = .returned (.agg (rowsA (walkT n l))) ∧ Hid (Below w'.heap.size w' w'')) := fun w' hb => walk_any n v l w' (ha.any hb) hm
  have hn : n ≤ 64 := by have := mayE_all hm; omega
  have HO : Hid (okR (walkT n l)) := okR_walk hm
  obtain ⟨p, cp, rfl⟩ := ha.slc
  obtain ⟨r, hr⟩ : ∃ r, r = walkT n l := ⟨_, rfl⟩
  have HRW : Hid (r = walkT n l) := hr
  rw [← hr] at K2 HO
  have HC : Hid (∀ i, lst (fun j => bit r i j && bit r j i) i = comp n l i) := fun i => by rw [hr]; rfl
  obtain ⟨i0, hi0, hz0, hz1, hz2⟩ := info_parts Try.infoInt
  clear ha hm hr
  go_enter Try.func33, Try.ntmps33
  go_wp2_with (first
    | (go_at_call 48; refine K1.mono ?_; rintro e w1 ⟨rfl, b1⟩)
    | (go_at_call 49; refine (K2.out _ b1.out).mono ?_; rintro e w2 ⟨rfl, b2⟩; have H2 : Hid (Below w.heap.size w w2) := b1.out.trans (b2.out.mono b1.out.size))
    | (simp only [zero_rows]; refine wpList_store_rows rfl _ _ rfl r zR rfl rfl ?_))
  go_loopw [7, 17] (fun u x wr => ∃ k : Nat, k ≤ n ∧ x = .int .i64 k ∧ Hid (wr.ownsRow (w2.heap.size + 1) 3 1 u k (intsV (cpre n l k))) ∧ Hid (RwAt wr w2.heap.size r) ∧ Hid (Below w2.heap.size w2 wr)) (fun _ x _ => n - (intOf x).toNat)
  case atStart => exact ⟨0, Nat.zero_le _, rfl, World.ownsRow_nil _ _ _ _, RwAt.new w2 r, bel1 _ _⟩
  case round =>
    obtain ⟨k, hk, rfl, HU, HR, HB⟩ := hrel
    by_cases hlt : k < n
    · have KL : Calls Try.prog 50 #[.pointer (some ⟨w2.heap.size, 0, none⟩), .int .i64 (k : Int)] wr fun e w' => e = .returned (.int .i64 ((comp n l k : Nat) : Int)) ∧ wr = w' := by
        rw [← HC.out k]; exact least_any k HR.out HO.out (by omega)
      obtain ⟨V, hV⟩ : ∃ V, V = wr := ⟨_, rfl⟩
      subst hV
      obtain ⟨c, hc⟩ : ∃ c, c = comp n l k := ⟨_, rfl⟩
      rw [← hc] at KL
      have HS : Hid (intsV (cpre n l (k + 1)) = intsV (cpre n l k) ++ [.int .i64 (c : Int)]) := by show _ = _; rw [cpre_snoc, hc]; simp [intsV]
      clear hc
      obtain ⟨p7, c7, hu⟩ := row_slice HU.out
      subst hu
      have MX : k + 1 ≤ maxLen := by unfold maxLen; omega
      have BY : (k + 1) * 8 ≤ 140737488355328 := by omega
      have BS : w2.heap.size + 1 ≤ V.heap.size := HR.out.lt
      go_wp2_with (first
        | (go_at_call 50; refine KL.mono ?_; rintro e w1 ⟨rfl, rfl⟩)
        | (at_builtin; refine wpList_append_own _ rfl _ _ 45 rfl (w2.heap.size + 1) 3 i0 (.int .i64 0) 1 8 Try.underlying45 hi0 hz0 hz1 hz2 rfl (by decide) _ _ _ rfl (HU.out.alloc _) ⟨V.heap.size, 0, none⟩ 1 1 [.int .i64 (c : Int)] rfl rfl (news1 V _ _) ?c2 MX BY ?c5 ?_))
      case c2 => intro u hu; simp at hu; subst hu; rfl
      case c5 => simp; omega
      intro v' w3 hown' hgrow _
      have HU3 : Hid (w3.ownsRow (w2.heap.size + 1) 3 1 v' (k + 1) (intsV (cpre n l (k + 1)))) := by show World.ownsRow _ _ _ _ _ _ _; rw [HS.out]; exact hown'
      have HR3 : Hid (RwAt w3 w2.heap.size r) := ((HR.out.keep (bel1 V _)).blk (hgrow.block _ (by simp; omega) (fun e => by have := (HU.out.lt _ e.symm).1; omega)))
      have HB3 : Hid (Below w2.heap.size w2 w3) := (HB.out.alloc HB.out.size _).grown hgrow (by simp; have := HB.out.size; omega) (fun g hg => by have := (HU.out.lt g hg).1; omega)
      obtain ⟨p8, c8, hv8⟩ := row_slice hown'
      subst hv8
      clear hown' hgrow
      go_wp2
      go_roundw
      case rel => exact ⟨k + 1, by omega, by go_num, HU3, HR3, HB3⟩
      case measure => simp [intOf]; omega
    · obtain rfl : k = n := by omega
      obtain ⟨p7, c7, hu⟩ := row_slice HU.out
      subst hu
      have HI : Hid (IsInts wr (fun i => w.heap.size ≤ i) (.slice p7 k c7) (compsT k l)) := by
        have := Reads.of (F := fun i => w.heap.size ≤ i) HU.out (fun b hb => by have := (HU.out.lt b hb).1; have := H2.out.size; show _ ≤ _; omega)
        show Reads _ _ _ _ _
        rw [compsT_length]; exact this
      have HF : Hid (Below w.heap.size w wr) := H2.out.trans (HB.out.mono H2.out.size)
      go_wp2
      go_ret2
      exact ⟨_, rfl, HI, HF⟩
end Go.Proofs.Ytkihbgikdbaelaa
