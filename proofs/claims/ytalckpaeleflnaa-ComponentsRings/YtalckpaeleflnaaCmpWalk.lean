/- walk of comps, against its plain function. -/
import Derived.Test.YtalckpaeleflnaaCmpFun
namespace Go.Proofs.Ytalckpaeleflnaa
set_option linter.unusedVariables false
open Go.ChangeShapes Go.WideShapes Go.ChangeAt Go.RowKit

theorem results_cell {fn : Func} {p : Tmp} {ty : TypeId} (h : fn.results = #[.cell p ty]) (tmps : Array Value) (P : Program) (w : World) :
    (results fn tmps).run P w = ((asAddr (tmps.getD p undef)).run P w).andThen fun a w₁ => (loadVar ty a).run P w₁ := by
  simp only [results, h]
  simp [Sem.run_bind, Result.andThen]
theorem setCells_below {B b : Nat} {w : World} (hB : B ≤ b) : ∀ (vs : List Value) (o : Nat) (w' : World), Below B w w' → Below B w (w'.setCells b o vs)
  | [], _, _, h => h
  | v :: vs, o, w', h => by
    rw [World.setCells]
    exact setCells_below hB vs (o + 1) _ (h.setCell (p := ⟨b, o, none⟩) hB v)
/-- The two arrays of walk: its result, still empty, and its rows r. -/
structure Wk (w : World) (r : Nat → Nat) (wr : World) : Prop where
  rw : RwAt wr (w.heap.size + 1) r
  z : RwAt wr w.heap.size zR
  bl : Below w.heap.size w wr
  ok : okR r
theorem Wk.only {w wr w' : World} {r r' : Nat → Nat} (h : Wk w r wr) (h1 : RwAt w' (w.heap.size + 1) r') (h2 : Only (w.heap.size + 1) wr w') (h3 : okR r') : Wk w r' w' :=
  ⟨h1, h.z.blk (h2.block _ (by omega)), h.bl.trans (h2.below (Nat.le_succ _)), h3⟩
theorem Wk.alloc {w wr : World} {r : Nat → Nat} (h : Wk w r wr) (o : Obj) : Wk w r (wr.alloc o) :=
  ⟨h.rw.keep (bel1 _ _), h.z.keep (bel1 _ _), h.bl.alloc (Nat.le_of_lt h.z.lt) o, h.ok⟩
theorem Wk.new (w : World) : Wk w (selfR 0) ((w.alloc (.cells (rowsA zR) 43)).alloc (.cells (rowsA zR) 43)) := by
  have e : (w.alloc (.cells (rowsA zR) 43)).heap.size = w.heap.size + 1 := by simp
  refine ⟨?_, (RwAt.new w zR).keep (bel1 _ _), (bel1 _ _).alloc (by simp) _, okR_self 0 (by omega)⟩
  have := RwAt.new (w.alloc (.cells (rowsA zR) 43)) zR
  rw [e] at this
  exact this
theorem take_edg {l : List Ed} {k : Nat} {t : Ed} (ht : l[k]? = some t) (r : Nat → Nat) : edgR r (l.take (k + 1)) = addR (edgR r (l.take k)) t.1.toNat t.2.1.toNat := by
  rw [List.take_add_one, ht]; exact edgR_snoc _ _ _
set_option maxHeartbeats 8000000 in
set_option maxRecDepth 100000 in
theorem walk_any (n : Nat) (v : Value) (l : List Ed) (w : World) {F : Nat → Prop} (ha : IsEds w F v l) (hm : mayE (n : Int) l = true) :
    Calls Try.prog 19 #[.int .i64 (n : Int), v] w fun e w' => e = .returned (.agg (rowsA (walkT n l))) ∧ Hid (Below w.heap.size w w') := by
  obtain ⟨p, cp, rfl⟩ := ha.slc
  have HA : Hid (IsEds w F (.slice p l.length cp) l) := ha
  have hm9 : l.length ≤ 9223372036854775807 := by have := ha.len; unfold maxLen at this; omega
  have hn : n ≤ 64 := by have := mayE_all hm; omega
  have HM : Hid (edsB (n : Int) l = true) := (mayE_all hm).2.2
  clear ha hm
  go_enter Try.func19, Try.ntmps19
  go_wp2
  simp only [zero_rows]
  go_loopw [12] (fun x wr => ∃ k : Nat, k ≤ n ∧ x = .int .i64 k ∧ Hid (Wk w (selfR k) wr)) (fun x _ => n - (intOf x).toNat)
  case atStart => exact ⟨0, Nat.zero_le _, rfl, Wk.new w⟩
  case round =>
    obtain ⟨k, hk, rfl, HK⟩ := hrel
    by_cases hlt : k < n
    · have KA : Calls Try.prog 26 #[.pointer (some ⟨w.heap.size + 1, 0, none⟩), .int .i64 (k : Int), .int .i64 (k : Int)] wr fun e w' => e = .returned (.tuple #[]) ∧ Hid (Wk w (selfR (k + 1)) w') :=
        (add_any k k HK.out.rw HK.out.ok (by omega) (by omega)).mono fun e w' ⟨h1, h2, h3⟩ => ⟨h1, HK.out.only h2.out h3.out (okR_self _ (by omega))⟩
      go_wp2_with (go_at_call 26; refine KA.mono ?_; rintro e w1 ⟨rfl, HK1⟩)
      go_roundw
      case rel => exact ⟨k + 1, by omega, by go_num, HK1⟩
      case measure => simp [intOf]; omega
    · obtain rfl : k = n := by omega
      obtain ⟨V, hV⟩ : ∃ V, V = wr := ⟨_, rfl⟩
      subst hV
      go_wp2
      go_loopw [21] (fun x wr => ∃ q : Nat, q ≤ l.length ∧ x = .int .i64 q ∧ Hid (Wk w (edgR (selfR k) (l.take q)) wr)) (fun x _ => l.length - (intOf x).toNat)
      case atStart => exact ⟨0, Nat.zero_le _, rfl, HK⟩
      case round =>
        obtain ⟨q, hq, rfl, HQ⟩ := hrel
        by_cases hlq : q < l.length
        · obtain ⟨t, ht⟩ : ∃ t, l[q]? = some t := ⟨_, List.getElem?_eq_getElem hlq⟩
          obtain ⟨g1, o1, hp, -, a0, a1, a2⟩ := (HA.out.any HQ.out.bl).at ht
          subst hp
          have hed := edB_lt (List.all_eq_true.1 HM.out t (List.mem_of_getElem? ht))
          obtain ⟨t0, t1, t2⟩ := t
          simp only at a0 a1 a2 hed
          obtain ⟨x, rfl⟩ : ∃ x : Nat, t0 = (x : Int) := ⟨t0.toNat, by omega⟩
          obtain ⟨y, rfl⟩ : ∃ y : Nat, t1 = (y : Int) := ⟨t1.toNat, by omega⟩
          have HE : Hid (edgR (selfR k) (l.take (q + 1)) = addR (edgR (selfR k) (l.take q)) x y) := take_edg ht _
          have KA : Hid (∀ o, Calls Try.prog 26 #[.pointer (some ⟨w.heap.size + 1, 0, none⟩), .int .i64 (x : Int), .int .i64 (y : Int)] (wr.alloc o) fun e w' => e = .returned (.tuple #[]) ∧ Hid (Wk w (edgR (selfR k) (l.take (q + 1))) w')) := fun o =>
            (add_any x y (HQ.out.alloc o).rw HQ.out.ok (by omega) (by omega)).mono fun e w' ⟨h1, h2, h3⟩ => ⟨h1, by
              show Wk _ _ _
              rw [HE.out]
              exact (HQ.out.alloc o).only h2.out h3.out (okR_add HQ.out.ok _ (by omega))⟩
          clear ht hed
          go_wp2_with (go_at_call 26; refine (KA.out _).mono ?_; rintro e w1 ⟨rfl, HK1⟩)
          go_roundw
          case rel => exact ⟨q + 1, by omega, by go_num, HK1⟩
          case measure => simp [intOf]; omega
        · obtain rfl : q = l.length := by omega
          obtain ⟨r0, hr0⟩ : ∃ r0, r0 = edgR (selfR k) l := ⟨_, rfl⟩
          have HT : Hid (walkT k l = walR r0 k k) := by show _ = _; rw [hr0]; rfl
          rw [List.take_length, ← hr0] at HQ
          clear hr0
          obtain ⟨V, hV⟩ : ∃ V, V = wr := ⟨_, rfl⟩
          subst hV
          go_wp2
          go_loopw [32] (fun x wr => ∃ m : Nat, m ≤ k ∧ x = .int .i64 m ∧ Hid (Wk w (walR r0 k m) wr)) (fun x _ => k - (intOf x).toNat)
          case atStart => exact ⟨0, Nat.zero_le _, rfl, HQ⟩
          case round =>
            obtain ⟨m, hm, rfl, HX⟩ := hrel
            by_cases hlm : m < k
            · obtain ⟨r1, hr1⟩ : ∃ r1, r1 = walR r0 k m := ⟨_, rfl⟩
              have HR1 : Hid (walR r0 k (m + 1) = rowR r1 m k) := by show _ = _; rw [hr1]; rfl
              rw [← hr1] at HX
              clear hr1
              obtain ⟨V, hV⟩ : ∃ V, V = wr := ⟨_, rfl⟩
              subst hV
              go_wp2
              go_loopw [36] (fun x wr => ∃ f : Nat, f ≤ k ∧ x = .int .i64 f ∧ Hid (Wk w (rowR r1 m f) wr)) (fun x _ => k - (intOf x).toNat)
              case atStart => exact ⟨0, Nat.zero_le _, rfl, HX⟩
              case round =>
                obtain ⟨f, hf, rfl, HY⟩ := hrel
                by_cases hlf : f < k
                · obtain ⟨r2, hr2⟩ : ∃ r2, r2 = rowR r1 m f := ⟨_, rfl⟩
                  have HR2 : Hid (rowR r1 m (f + 1) = orR r2 m f) := by show _ = _; rw [hr2]; rfl
                  rw [← hr2] at HY
                  clear hr2
                  cases e0 : bit r2 f m with
                  | false =>
                    have HZ : Hid (Wk w (rowR r1 m (f + 1)) wr) := by
                      show Wk _ _ _
                      rw [HR2.out, show orR r2 m f = r2 from if_neg (by rw [e0]; simp)]
                      exact HY.out
                    go_wp2_with (go_at_call 24; refine (has_any _ _ HY.out.rw HY.out.ok ?_ ?_).mono ?_; omega; omega; rintro e w1 ⟨rfl, rfl⟩; rw [e0])
                    go_roundw
                    case rel => exact ⟨f + 1, by omega, by go_num, HZ⟩
                    case measure => simp [intOf]; omega
                  | true =>
                    have c1 := HY.out.rw.cell (k := f) (by omega)
                    have c2 := HY.out.rw.cell (k := m) (by omega)
                    have f1 := HY.out.rw.frozen f
                    have HB : Hid (bits .or .u64 ((r2 f : Nat) : Int) ((r2 m : Nat) : Int) = ((r2 f ||| r2 m : Nat) : Int)) := u64_or_nat _ _ (HY.out.ok f) (HY.out.ok m)
                    have HZ : Hid (Wk w (rowR r1 m (f + 1)) (wr.drew.setCell ⟨w.heap.size + 1, f, none⟩ (.int .u64 (bits .or .u64 ((r2 f : Nat) : Int) ((r2 m : Nat) : Int))))) := by
                      show Wk _ _ _
                      have hx : okR (orR r2 m f) := okR_or HY.out.ok m f
                      rw [HB.out, HR2.out]
                      rw [show orR r2 m f = putR r2 f (r2 f ||| r2 m) from if_pos e0] at hx ⊢
                      exact HY.out.only (RwAt.put (w := wr.drew) HY.out.rw (by omega) _) ((Only.drew _ _).set _ _) hx
                    go_wp2_with (go_at_call 24; refine (has_any _ _ HY.out.rw HY.out.ok ?_ ?_).mono ?_; omega; omega; rintro e w1 ⟨rfl, rfl⟩; rw [e0])
                    go_region
                    all_goals
                      go_wp2
                      go_roundw
                      case rel => exact ⟨f + 1, by omega, by go_num, HZ⟩
                      case measure => simp [intOf]; omega
                · obtain rfl : f = k := by omega
                  go_wp2
                  go_roundw
                  case rel => exact ⟨m + 1, by omega, by go_num, by rw [HR1.out]; exact HY⟩
                  case measure => simp [intOf]; omega
            · obtain rfl : m = k := by omega
              obtain ⟨r1, hr1⟩ : ∃ r1, r1 = walkT m l := ⟨_, rfl⟩
              rw [← HT.out, ← hr1] at HX
              have HR1 : Hid (r1 = walkT m l) := hr1
              clear hr1 HT
              have HW := HX.out.rw.whole
              have hz := HX.out.z.whole
              have ht : wr.there w.heap.size 0 (rowsA r1).size := fun j hj => ⟨hz.isSome j (by simpa [rowsL, rowsA] using hj), by rw [Nat.zero_add]; exact HX.out.z.frozen j⟩
              have hi : (Try.prog.info? 43).map (·.size) = some (rowsA r1).size := by rw [rowsA_size]; exact Try.infoRows
              have hi2 : (Try.prog.info? 43).map (·.size) = some (rowsL r1).length := by rw [Try.infoRows]; simp [rowsL]
              have HR : Hid ((wr.setCells w.heap.size 0 (rowsA r1).toList).rangeAt w.heap.size 0 (rowsL r1)) := World.rangeAt_setCells_same _ _ _ _ ht
              have HB : Hid (Below w.heap.size w (wr.setCells w.heap.size 0 (rowsA r1).toList)) := setCells_below (Nat.le_refl _) _ _ _ HX.out.bl
              have hld := run_loadVar_mid (P := Try.prog) _ w.heap.size 0 43 (rowsL r1) _ HR.out Try.underlying43 rfl hi2
              clear hz
              go_wp2_with (first
                | (refine wpList_load_mid rfl 43 _ rfl (w.heap.size + 1) 0 rfl (rowsL r1) _ HW Try.underlying43 rfl hi2 ?_)
                | (refine wpList_store_mid rfl 43 _ _ rfl w.heap.size 0 (rowsA r1) rfl rfl ht hi (rowsA_one r1) ?_))
              (try simp only [Exit.inBlock, Exit.then])
              refine bodyPost_ret (v := .agg (rowsA r1)) ?_ rfl ⟨congrArg (fun x => Ending.returned (.agg (rowsA x))) HR1.out, HB⟩
              rw [results_cell rfl]
              show ((asAddr (.pointer (some ⟨w.heap.size, 0, none⟩))).run Try.prog _).andThen _ = _
              simp only [asAddr, Sem.run_pure, Result.andThen]
              exact hld
end Go.Proofs.Ytalckpaeleflnaa
