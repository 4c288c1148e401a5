/- The names that are defined; the symbols of a conjunct's items. -/
import Derived.Test.YtopnhbgialbicaaGramUnk
import Derived.Test.YtopnhbgialbicaaNoteShut
namespace Go.Proofs.Ytopnhbgialbicaa
set_option linter.unusedVariables false
open Go.ChangeShapes Go.WideShapes Go.ChangeAt Go.RowKit Go.Maps

theorem Try.infoSym : (Try.prog.info? 47).map (fun i => (i.zero, i.size, i.bytes)) = some (some (.agg #[.int .i64 0, .int .i64 0, .int .i64 0]), 3, 24) := by kernel_rfl
theorem take_map' {α β : Type} (f : α → β) {l : List α} {k : Nat} {a : α} (h : l[k]? = some a) : (l.take (k + 1)).map f = (l.take k).map f ++ [f a] := by
  rw [List.take_add_one, h]; simp
set_option maxRecDepth 100000 in
set_option maxHeartbeats 4000000 in
theorem defined_any (v : Value) (l : List Df) (w : World) {F : Nat → Prop} (hd : IsDefs w F v l) (hl : l.length ≤ 4294967296) :
    Calls Try.prog 10 #[v] w fun e w' => ∃ v', e = .returned v' ∧ w'.ownsRow w.heap.size 9 1 v' l.length (txV (namesT l)) ∧ Below w.heap.size w w' := by
  obtain ⟨i, hi0, hz0, hz1, hz2⟩ := info_parts Try.infoStr
  have HI : Hid (Try.prog.info? 9 = some i ∧ i.zero = some (.string ⟨#[]⟩) ∧ i.size = 1 ∧ i.bytes = 16) := ⟨hi0, hz0, hz1, hz2⟩
  obtain ⟨us, ⟨p, cp, rfl, hm, hca⟩, hla, hia⟩ := hd
  have HA : Hid (0 < l.length → ∃ g o, p = some ⟨g, o, none⟩ ∧ F g ∧ g < w.heap.size ∧ (∀ j c, (dfsV l us)[j]? = some c → w.cell? ⟨g, o + j, none⟩ = some c) ∧ ∀ j, j < ((dfsV l us)).length → w.frozen? ⟨g, o + j, none⟩ = false) := hca
  have IA : Hid (us.length = l.length ∧ ∀ (k : Nat) (c : Df) (u : Value), l[k]? = some c → us[k]? = some u → IsAlts w F u c.alts) := ⟨hla, hia⟩
  clear hca hla hia hi0 hz0 hz1 hz2 hm
  go_enter Try.func10, Try.ntmps10
  go_wp2
  go_loopw [3, 8] (fun o j wr => ∃ k : Nat, k ≤ l.length ∧ j = .int .i64 k ∧ (∃ po co, o = .slice po k co) ∧ Hid (wr.ownsRow w.heap.size 9 1 o k (txV ((l.take k).map Df.name))) ∧ Hid (Below w.heap.size w wr)) (fun _ j _ => l.length - (intOf j).toNat)
  case atStart => exact ⟨0, Nat.zero_le _, rfl, ⟨none, 0, rfl⟩, World.ownsRow_nil _ _ _ _, Below.refl _ _⟩
  case round =>
    obtain ⟨k, hk, rfl, ⟨po, co, rfl⟩, OW, BB⟩ := hrel
    have hsz : w.heap.size ≤ wr.heap.size := BB.out.size
    by_cases hlt : k < l.length
    · obtain ⟨d, hd⟩ : ∃ t, l[k]? = some t := ⟨_, List.getElem?_eq_getElem hlt⟩
      obtain ⟨u, hu⟩ : ∃ u, us[k]? = some u := ⟨_, List.getElem?_eq_getElem (by rw [IA.out.1]; exact hlt)⟩
      obtain ⟨g1, o1, hp, -, hg1, ca, -⟩ := HA.out (by omega)
      subst hp
      obtain ⟨i0, i1⟩ := dfsV_at l us k d u hd hu
      have a0 := (BB.out.cell (p := ⟨_, _, none⟩) hg1).trans (ca _ _ i0)
      have a1 := (BB.out.cell (p := ⟨_, _, none⟩) hg1).trans (reas (ca _ _ i1))
      obtain ⟨u1, u2, hx⟩ := (IA.out.2 k d u hd hu).slc
      subst hx
      have HT : Hid ((l.take (k + 1)).map Df.name = (l.take k).map Df.name ++ [d.name]) := take_map' Df.name hd
      obtain ⟨nm, al⟩ := d
      simp only at a0 a1 HT
      clear ca hd hu hg1 i0 i1
      have ONE : Hid (∀ u, u ∈ [Value.string nm] → u.oneCell' = true) := by show ∀ u, _ → _; simp [Value.oneCell']
      have MX : Hid (k + 1 ≤ maxLen) := by show _ ≤ _; unfold maxLen; omega
      have BY : Hid ((k + 1) * 16 ≤ 140737488355328) := by show _ ≤ _; omega
      go_wp2_with (at_builtin; refine wpList_append_own _ rfl _ _ 22 rfl w.heap.size 9 i (.string ⟨#[]⟩) 1 16 Try.underlying22 HI.out.1 HI.out.2.1 HI.out.2.2.1 HI.out.2.2.2 rfl (by decide) _ _ _ rfl ((OW.out.alloc _).alloc _) ⟨wr.heap.size + 1, 0, none⟩ 1 1 [.string nm] rfl rfl (World.news_of_block (cs := #[.string nm]) (t := 9) (fr := (0, 0)) (by simpa using heap_alloc_new (wr.alloc (.cells #[.string nm, .slice u1 al.length u2] 35)) (.cells #[.string nm] 9))) ONE.out MX.out BY.out (Nat.le_trans hsz (Nat.le_trans (le_alloc _ _) (le_alloc _ _))) ?_)
      intro v' w2 hown' hgrow hnil
      clear hnil
      obtain ⟨po', co', hv'⟩ := row_slice hown'
      subst hv'
      have OW2 : Hid (w2.ownsRow w.heap.size 9 1 (.slice po' (k + 1) co') (k + 1) (txV ((l.take (k + 1)).map Df.name))) := by
        show World.ownsRow _ _ _ _ _ _ _
        rw [HT.out, txV, List.map_append, List.map_take]; exact hown'
      have BB2 : Hid (Below w.heap.size w w2) := ((BB.out.alloc hsz _).alloc (Nat.le_trans hsz (le_alloc _ _)) _).grown hgrow (Nat.le_trans hsz (Nat.le_trans (le_alloc _ _) (le_alloc _ _))) (fun x hx => ((OW.out.alloc (.cells #[] 0)).lt x hx).1)
      clear hown' hgrow
      go_wp2
      go_roundw
      case rel => exact ⟨k + 1, by omega, by go_num, ⟨_, _, rfl⟩, OW2, BB2⟩
      case measure => simp [intOf]; omega
    · obtain rfl : k = l.length := by omega
      go_wp2
      go_ret
      have ho := OW.out
      rw [List.take_length] at ho
      exact ⟨_, rfl, ho, BB.out⟩
theorem rowT_take {names : List ByteArray} {l : List It} {k : Nat} {i : It} (h : l[k]? = some i) : rowT names (l.take (k + 1)) = rowT names (l.take k) ++ symT names i := by
  rw [take_snoc h, rowT, List.flatMap_append]; simp [rowT]
theorem rowT_len {names : List ByteArray} {l : List It} {k : Nat} : (rowT names (l.take k)).length ≤ (rowT names l).length := by
  conv => rhs; rw [← List.take_append_drop k l]
  rw [rowT, rowT, List.flatMap_append, List.length_append]; omega
theorem bytesT_len (s : ByteArray) : (bytesT s).length = s.size := by rw [bytesT, List.length_map, Array.length_toList]; rfl
theorem bytesT_at (s : ByteArray) {m : Nat} (h : m < s.size) : (bytesT s)[m]? = some ⟨-1, ((s[m]'h).toNat : Int), ((s[m]'h).toNat : Int)⟩ := by
  have h' : m < s.data.size := h
  rw [bytesT, List.getElem?_map, Array.getElem?_toList, Array.getElem?_eq_getElem h']
  rfl
theorem wrap_byte (c : UInt8) : wrap64 (c.toNat : Int) = (c.toNat : Int) := by
  have := c.toNat_lt
  unfold wrap64; omega
theorem block_lt {w : World} {b : Nat} {o : Obj} (h : w.heap[b]? = some o) : b < w.heap.size := by
  by_cases hh : b < w.heap.size
  · exact hh
  · rw [Array.getElem?_eq_none (by omega)] at h; cases h
theorem heap_alloc_old {w : World} (o : Obj) {b : Nat} (h : b < w.heap.size) : (w.alloc o).heap[b]? = w.heap[b]? := (bel1 w o).block b h
/-- A block of another type stays where a row grows. -/
theorem row_other {w w' : World} {base e size n b : Nat} {v : Value} {xs : List Value} {arr : Array Value} {t : TypeId} (h : w.ownsRow base e size v n xs) (he : t ≠ e) (hb : w.heap[b]? = some (.cells arr t)) (hg : w.grownBy w' v.ownBlock) : w'.heap[b]? = some (.cells arr t) := by
  refine (hg.block b (block_lt hb) ?_).trans hb
  intro e1
  obtain ⟨_, ⟨h1, _⟩ | ⟨g, cap, cur, h1, _, h3, _⟩⟩ := h
  · rw [h1] at e1; cases e1
  · rw [h1] at e1
    have e2 : b = g := by injection e1
    subst e2
    rw [hb] at h3
    injection h3 with h3
    injection h3 with _ h4
    exact he h4
/-- A row that grew by symbols. -/
theorem row_next {w wr w2 : World} {n : Nat} {po : Option Addr} {co : Nat} {v' : Value} {L L' : List Sy} {s : Sy} {o o' : Obj} (HN : Hid (n = L.length)) (OW : Hid (wr.ownsRow w.heap.size 47 3 (.slice po n co) n (sysV L))) (hown : w2.ownsRow w.heap.size 47 3 v' (n + 1) (sysV L ++ [.int .i64 s.name, .int .i64 s.lo, .int .i64 s.hi]))
    (hg : ((wr.alloc o).alloc o').grownBy w2 (Value.slice po n co).ownBlock) (HT : Hid (L' = L ++ [s])) (BB : Hid (Below w.heap.size w wr)) :
    Hid (w2.ownsRow w.heap.size 47 3 v' (n + 1) (sysV L')) ∧ Hid (n + 1 = L'.length) ∧ Hid (Below w.heap.size w w2) ∧ ∃ po' co', v' = .slice po' (n + 1) co' := by
  obtain ⟨po', co', hv'⟩ := row_slice hown
  have hsz := BB.out.size
  refine ⟨?_, ?_, ((BB.out.alloc hsz _).alloc (Nat.le_trans hsz (le_alloc _ _)) _).grown hg (Nat.le_trans hsz (Nat.le_trans (le_alloc _ _) (le_alloc _ _))) (fun x hx => ((OW.out.alloc (.cells #[] 0)).lt x hx).1), po', co', hv'⟩
  · show World.ownsRow _ _ _ _ _ _ _
    rw [HT.out, sysV_append]; exact hown
  · show n + 1 = _
    rw [HT.out, List.length_append, ← HN.out]; rfl
theorem cell_of_cells {w : World} {b : Nat} {arr : Array Value} {t : TypeId} (h : w.heap[b]? = some (.cells arr t)) (j : Nat) : w.cell? ⟨b, j, none⟩ = arr[j]? := by simp [World.cell?, h]
set_option maxRecDepth 100000 in
set_option maxHeartbeats 8000000 in
theorem makeRow_any (v : Value) (l : List It) (names : List ByteArray) (B : Nat) (w : World) {F : Nat → Prop} (hd : IsIts w F v l) (hm : NMap w B names) (hB : B < w.heap.size) (hT : ∀ i, i ∈ l → i.text.size ≤ 140737488355328) (hl : (rowT names l).length ≤ 4294967296) :
    Calls Try.prog 31 #[v, .map (some B)] w fun e w' => ∃ v', e = .returned v' ∧ w'.ownsRow w.heap.size 47 3 v' (rowT names l).length (sysV (rowT names l)) ∧ Below w.heap.size w w' := by
  obtain ⟨i, hi0, hz0, hz1, hz2⟩ := info_parts Try.infoSym
  have HI : Hid (Try.prog.info? 47 = some i ∧ i.zero = some (.agg #[.int .i64 0, .int .i64 0, .int .i64 0]) ∧ i.size = 3 ∧ i.bytes = 24) := ⟨hi0, hz0, hz1, hz2⟩
  obtain ⟨p, cp, rfl, hml, hca⟩ := hd
  replace hml := hml.1
  unfold maxLen at hml
  have HA : Hid (0 < l.length → ∃ g o, p = some ⟨g, o, none⟩ ∧ F g ∧ g < w.heap.size ∧ (∀ j c, (itsV l)[j]? = some c → w.cell? ⟨g, o + j, none⟩ = some c) ∧ ∀ j, j < ((itsV l)).length → w.frozen? ⟨g, o + j, none⟩ = false) := hca
  have HF : Hid (∀ i, i ∈ l → i.text.size ≤ 140737488355328) := hT
  have HM : Hid (NMap w B names) := hm
  have HL : Hid ((rowT names l).length ≤ 4294967296) := hl
  clear hca hi0 hz0 hz1 hz2 hT hm hl
  go_enter Try.func31, Try.ntmps31
  go_wp2
  go_loopw [5, 12] (fun o j wr => ∃ k n : Nat, k ≤ l.length ∧ j = .int .i64 k ∧ (∃ po co, o = .slice po n co) ∧ Hid (n = (rowT names (l.take k)).length) ∧ Hid (wr.ownsRow w.heap.size 47 3 o n (sysV (rowT names (l.take k)))) ∧ Hid (Below w.heap.size w wr)) (fun _ j _ => l.length - (intOf j).toNat)
  case atStart => exact ⟨0, 0, Nat.zero_le _, rfl, ⟨none, 0, rfl⟩, rfl, World.ownsRow_nil _ _ _ _, Below.refl _ _⟩
  case round =>
    obtain ⟨k, n, hk, rfl, ⟨po, co, rfl⟩, HN, OW, BB⟩ := hrel
    have hsz : w.heap.size ≤ wr.heap.size := BB.out.size
    by_cases hlt : k < l.length
    · obtain ⟨t, ht⟩ : ∃ t, l[k]? = some t := ⟨_, List.getElem?_eq_getElem hlt⟩
      obtain ⟨g1, o1, hp, -, hg1, ca, -⟩ := HA.out (by omega)
      subst hp
      obtain ⟨i0, i1, i2, i3⟩ := itsV_at l k t ht
      have a0 := (BB.out.cell (p := ⟨_, _, none⟩) hg1).trans (ca _ _ i0)
      have a1 := (BB.out.cell (p := ⟨_, _, none⟩) hg1).trans (reas (ca _ _ i1))
      have a2 := (BB.out.cell (p := ⟨_, _, none⟩) hg1).trans (reas (ca _ _ i2))
      have a3 := (BB.out.cell (p := ⟨_, _, none⟩) hg1).trans (reas (ca _ _ i3))
      have HT : Hid (rowT names (l.take (k + 1)) = rowT names (l.take k) ++ symT names t) := rowT_take ht
      have hts := HF.out t (List.mem_of_getElem? ht)
      have HLE : Hid (n + (symT names t).length ≤ 4294967296) := by
        show _ ≤ _
        have h1 := rowT_len (names := names) (l := l) (k := k + 1)
        rw [HT.out, List.length_append, ← HN.out] at h1
        have := HL.out
        omega
      obtain ⟨kd, tx, lo, hi⟩ := t
      simp only at a0 a1 a2 a3 hts
      clear ca ht hg1 i0 i1 i2 i3
      by_cases e0 : kd = 0
      · subst e0
        have ES : symT names ⟨0, tx, lo, hi⟩ = [⟨numOf names tx, 0, 0⟩] := rfl
        have HT2 := HT.out
        have HL2 := HLE.out
        rw [ES] at HT2 HL2
        have HT3 : Hid (rowT names (l.take (k + 1)) = rowT names (l.take k) ++ [⟨numOf names tx, 0, 0⟩]) := HT2
        have ONE : Hid (∀ u, u ∈ [Value.int .i64 (numOf names tx), .int .i64 0, .int .i64 0] → u.oneCell' = true) := by show ∀ u, _ → _; simp [Value.oneCell']
        have MX : Hid (n + 1 ≤ maxLen) := by show _ ≤ _; unfold maxLen; simp at HL2; omega
        have BY : Hid ((n + 1) * 24 ≤ 140737488355328) := by show _ ≤ _; simp at HL2; omega
        obtain ⟨D, hown, hD, hdd⟩ := HM.out
        have hat0 := (hdd tx).2
        have hownr : (wr.alloc (.cells #[.int .i64 0, .string tx, .int .i64 lo, .int .i64 hi] 40)).ownsMap Try.prog 9 (plainElem Try.prog 3) B names.length D := by
          obtain ⟨es, ck, h1, h2⟩ := hown
          exact ⟨es, ck, ((BB.out.alloc hsz _).block B hB).trans h1, h2⟩
        have hkey : keyOf Try.prog 9 (.string tx) = some (litS tx) := WideMaps.keyOf_string_mk Try.underlying9 (by unfold maxLen; omega)
        clear hD hdd hown HT2 HL2 ES
        go_wp2_with (first | (at_lookup; refine wpList_lookup_own_int _ rfl _ _ 55 rfl 9 3 .i64 Try.keyed Try.underMap Try.underlying3 (Try.zeroInt _) B _ D rfl hownr _ _ rfl hkey ?_; intro c hat hwc; obtain rfl : c = numOf names tx := (by rw [hat0] at hat; injection hat with hat; injection hat with _ hat; exact hat.symm)) | (at_builtin; refine wpList_append_own _ rfl _ _ 48 rfl w.heap.size 47 i (.agg #[.int .i64 0, .int .i64 0, .int .i64 0]) 3 24 Try.underlying48 HI.out.1 HI.out.2.1 HI.out.2.2.1 HI.out.2.2.2 rfl (by decide) _ _ _ rfl ((OW.out.alloc _).alloc _) ⟨wr.heap.size + 1, 0, none⟩ 1 1 [.int .i64 (numOf names tx), .int .i64 0, .int .i64 0] rfl rfl (World.news_of_block (cs := #[.int .i64 (numOf names tx), .int .i64 0, .int .i64 0]) (t := 47) (fr := (0, 0)) (by simpa using heap_alloc_new (wr.alloc (.cells #[.int .i64 0, .string tx, .int .i64 lo, .int .i64 hi] 40)) (.cells #[.int .i64 (numOf names tx), .int .i64 0, .int .i64 0] 47))) ONE.out MX.out BY.out (Nat.le_trans hsz (Nat.le_trans (le_alloc _ _) (le_alloc _ _))) ?_))
        intro v' w2 hown' hgrow hnil
        clear hnil
        obtain ⟨OW2, HN2, BB2, po', co', hv'⟩ := row_next HN OW hown' hgrow HT3 BB
        subst hv'
        clear hown' hgrow
        go_wp2
        go_roundw
        case rel => exact ⟨k + 1, n + 1, by omega, by go_num, ⟨_, _, rfl⟩, HN2, OW2, BB2⟩
        case measure => simp [intOf]; omega
      · by_cases e1 : kd = 1
        · subst e1
          have ES : symT names ⟨1, tx, lo, hi⟩ = bytesT tx := rfl
          have HT2 := HT.out
          have HL2 := HLE.out
          rw [ES] at HT2 HL2
          have HT3 : Hid (rowT names (l.take (k + 1)) = rowT names (l.take k) ++ bytesT tx) := HT2
          have hlb : (bytesT tx).length = tx.size := bytesT_len tx
          rw [hlb] at HL2
          clear HT2 ES
          go_wp2
          have DB : Hid ((wr.alloc (.cells #[.int .i64 1, .string tx, .int .i64 lo, .int .i64 hi] 40)).heap[wr.heap.size]? = some (.cells #[.int .i64 1, .string tx, .int .i64 lo, .int .i64 hi] 40)) := heap_alloc_new _ _
          have BB1 : Hid (Below w.heap.size w (wr.alloc (.cells #[.int .i64 1, .string tx, .int .i64 lo, .int .i64 hi] 40))) := BB.out.alloc hsz _
          have OW1 : Hid ((wr.alloc (.cells #[.int .i64 1, .string tx, .int .i64 lo, .int .i64 hi] 40)).ownsRow w.heap.size 47 3 (.slice po n co) n (sysV (rowT names (l.take k)))) := OW.out.alloc _
          go_loopw [5, 37] (fun o j wz => ∃ m : Nat, m ≤ tx.size ∧ j = .int .i64 m ∧ (∃ po co, o = .slice po (n + m) co) ∧ Hid (wz.ownsRow w.heap.size 47 3 o (n + m) (sysV (rowT names (l.take k) ++ (bytesT tx).take m))) ∧ Hid (Below w.heap.size w wz) ∧ Hid (wz.heap[wr.heap.size]? = some (.cells #[.int .i64 1, .string tx, .int .i64 lo, .int .i64 hi] 40))) (fun _ j _ => tx.size - (intOf j).toNat)
          case atStart => exact ⟨0, Nat.zero_le _, rfl, ⟨po, co, rfl⟩, by show World.ownsRow _ _ _ _ _ _ _; simpa using OW1.out, BB1, DB⟩
          case round =>
            obtain ⟨m, hm, rfl, ⟨pz, cz, rfl⟩, OZ, BZ, DZ⟩ := hrel
            by_cases hmt : m < tx.size
            · have z1 : wr.cell? ⟨_, 1, none⟩ = some (.string tx) := cell_of_cells DZ.out 1
              have hzs : w.heap.size ≤ wr.heap.size := BZ.out.size
              have ONE : Hid (∀ u, u ∈ [Value.int .i64 (-1), .int .i64 (wrap64 ((tx[m]'hmt).toNat : Int)), .int .i64 (wrap64 ((tx[m]'hmt).toNat : Int))] → u.oneCell' = true) := by show ∀ u, _ → _; simp [Value.oneCell']
              have MX : Hid (n + m + 1 ≤ maxLen) := by show _ ≤ _; unfold maxLen; omega
              have BY : Hid ((n + m + 1) * 24 ≤ 140737488355328) := by show _ ≤ _; omega
              have HS : Hid (sysV (rowT names (l.take k) ++ (bytesT tx).take (m + 1)) = sysV (rowT names (l.take k) ++ (bytesT tx).take m) ++ [.int .i64 (-1), .int .i64 (wrap64 ((tx[m]'hmt).toNat : Int)), .int .i64 (wrap64 ((tx[m]'hmt).toNat : Int))]) := by
                show _ = _
                rw [take_snoc (bytesT_at tx hmt), ← List.append_assoc, sysV_append, wrap_byte]
                rfl
              go_wp2_with (at_builtin; refine wpList_append_own _ rfl _ _ 48 rfl w.heap.size 47 i (.agg #[.int .i64 0, .int .i64 0, .int .i64 0]) 3 24 Try.underlying48 HI.out.1 HI.out.2.1 HI.out.2.2.1 HI.out.2.2.2 rfl (by decide) _ _ _ rfl (OZ.out.alloc _) ⟨wr.heap.size, 0, none⟩ 1 1 [.int .i64 (-1), .int .i64 (wrap64 ((tx[m]'hmt).toNat : Int)), .int .i64 (wrap64 ((tx[m]'hmt).toNat : Int))] rfl rfl (World.news_of_block (cs := #[.int .i64 (-1), .int .i64 (wrap64 ((tx[m]'hmt).toNat : Int)), .int .i64 (wrap64 ((tx[m]'hmt).toNat : Int))]) (t := 47) (fr := (0, 0)) (heap_alloc_new wr _)) ONE.out MX.out BY.out (Nat.le_trans hzs (le_alloc _ _)) ?_)
              intro v' w2 hown' hgrow hnil
              clear hnil
              obtain ⟨po', co', hv'⟩ := row_slice hown'
              subst hv'
              have OZ2 : Hid (w2.ownsRow w.heap.size 47 3 (.slice po' (n + m + 1) co') (n + m + 1) (sysV (rowT names (l.take k) ++ (bytesT tx).take (m + 1)))) := by
                show World.ownsRow _ _ _ _ _ _ _
                rw [HS.out]; exact hown'
              have BZ2 : Hid (Below w.heap.size w w2) := (BZ.out.alloc hzs _).grown hgrow (Nat.le_trans hzs (le_alloc _ _)) (fun x hx => ((OZ.out.alloc (.cells #[] 0)).lt x hx).1)
              have DZ2 := row_other (OZ.out.alloc (.cells #[.int .i64 (-1), .int .i64 (wrap64 ((tx[m]'hmt).toNat : Int)), .int .i64 (wrap64 ((tx[m]'hmt).toNat : Int))] 47)) (by decide) ((heap_alloc_old _ (block_lt DZ.out)).trans DZ.out) hgrow
              have DZ3 : Hid _ := DZ2
              clear hown' hgrow DZ2
              go_wp2
              go_roundw
              case rel => exact ⟨m + 1, by omega, by go_num, ⟨_, _, rfl⟩, OZ2, BZ2, DZ3⟩
              case measure => simp [intOf]; omega
            · obtain rfl : m = tx.size := by omega
              have OZ2 : Hid (wr.ownsRow w.heap.size 47 3 (.slice pz (n + tx.size) cz) (n + tx.size) (sysV (rowT names (l.take (k + 1))))) := by
                show World.ownsRow _ _ _ _ _ _ _
                have := OZ.out
                rw [← hlb, List.take_length, ← HT3.out, hlb] at this
                exact this
              have HN2 : Hid (n + tx.size = (rowT names (l.take (k + 1))).length) := by
                show _ = _
                rw [HT3.out, List.length_append, hlb, ← HN.out]
              go_wp2
              go_roundw
              case rel => exact ⟨k + 1, n + tx.size, by omega, by go_num, ⟨_, _, rfl⟩, HN2, OZ2, BZ⟩
              case measure => simp [intOf]; omega
        · by_cases e2 : kd = 2
          · subst e2
            have ES : symT names ⟨2, tx, lo, hi⟩ = [⟨-1, lo, hi⟩] := rfl
            have HT2 := HT.out
            have HL2 := HLE.out
            rw [ES] at HT2 HL2
            have HT3 : Hid (rowT names (l.take (k + 1)) = rowT names (l.take k) ++ [⟨-1, lo, hi⟩]) := HT2
            have ONE : Hid (∀ u, u ∈ [Value.int .i64 (-1), .int .i64 lo, .int .i64 hi] → u.oneCell' = true) := by show ∀ u, _ → _; simp [Value.oneCell']
            have MX : Hid (n + 1 ≤ maxLen) := by show _ ≤ _; unfold maxLen; simp at HL2; omega
            have BY : Hid ((n + 1) * 24 ≤ 140737488355328) := by show _ ≤ _; simp at HL2; omega
            clear HT2 HL2 ES
            go_wp2_with (at_builtin; refine wpList_append_own _ rfl _ _ 48 rfl w.heap.size 47 i (.agg #[.int .i64 0, .int .i64 0, .int .i64 0]) 3 24 Try.underlying48 HI.out.1 HI.out.2.1 HI.out.2.2.1 HI.out.2.2.2 rfl (by decide) _ _ _ rfl ((OW.out.alloc _).alloc _) ⟨wr.heap.size + 1, 0, none⟩ 1 1 [.int .i64 (-1), .int .i64 lo, .int .i64 hi] rfl rfl (World.news_of_block (cs := #[.int .i64 (-1), .int .i64 lo, .int .i64 hi]) (t := 47) (fr := (0, 0)) (by simpa using heap_alloc_new (wr.alloc (.cells #[.int .i64 2, .string tx, .int .i64 lo, .int .i64 hi] 40)) (.cells #[.int .i64 (-1), .int .i64 lo, .int .i64 hi] 47))) ONE.out MX.out BY.out (Nat.le_trans hsz (Nat.le_trans (le_alloc _ _) (le_alloc _ _))) ?_)
            intro v' w2 hown' hgrow hnil
            clear hnil
            obtain ⟨OW2, HN2, BB2, po', co', hv'⟩ := row_next HN OW hown' hgrow HT3 BB
            subst hv'
            clear hown' hgrow
            go_wp2
            go_roundw
            case rel => exact ⟨k + 1, n + 1, by omega, by go_num, ⟨_, _, rfl⟩, HN2, OW2, BB2⟩
            case measure => simp [intOf]; omega
          · have ES : symT names ⟨kd, tx, lo, hi⟩ = [⟨-2, 0, 0⟩] := by unfold symT; rw [if_neg e0, if_neg e1, if_neg e2]
            have HT2 := HT.out
            have HL2 := HLE.out
            rw [ES] at HT2 HL2
            have HT3 : Hid (rowT names (l.take (k + 1)) = rowT names (l.take k) ++ [⟨-2, 0, 0⟩]) := HT2
            have ONE : Hid (∀ u, u ∈ [Value.int .i64 (-2), .int .i64 0, .int .i64 0] → u.oneCell' = true) := by show ∀ u, _ → _; simp [Value.oneCell']
            have MX : Hid (n + 1 ≤ maxLen) := by show _ ≤ _; unfold maxLen; simp at HL2; omega
            have BY : Hid ((n + 1) * 24 ≤ 140737488355328) := by show _ ≤ _; simp at HL2; omega
            have e0' : (kd == 0) = false := by simp [e0]
            have e1' : (kd == 1) = false := by simp [e1]
            have e2' : (kd == 2) = false := by simp [e2]
            clear HT2 HL2 ES
            go_wp2_with (at_builtin; refine wpList_append_own _ rfl _ _ 48 rfl w.heap.size 47 i (.agg #[.int .i64 0, .int .i64 0, .int .i64 0]) 3 24 Try.underlying48 HI.out.1 HI.out.2.1 HI.out.2.2.1 HI.out.2.2.2 rfl (by decide) _ _ _ rfl ((OW.out.alloc _).alloc _) ⟨wr.heap.size + 1, 0, none⟩ 1 1 [.int .i64 (-2), .int .i64 0, .int .i64 0] rfl rfl (World.news_of_block (cs := #[.int .i64 (-2), .int .i64 0, .int .i64 0]) (t := 47) (fr := (0, 0)) (by simpa using heap_alloc_new (wr.alloc (.cells #[.int .i64 kd, .string tx, .int .i64 lo, .int .i64 hi] 40)) (.cells #[.int .i64 (-2), .int .i64 0, .int .i64 0] 47))) ONE.out MX.out BY.out (Nat.le_trans hsz (Nat.le_trans (le_alloc _ _) (le_alloc _ _))) ?_)
            intro v' w2 hown' hgrow hnil
            clear hnil
            obtain ⟨OW2, HN2, BB2, po', co', hv'⟩ := row_next HN OW hown' hgrow HT3 BB
            subst hv'
            clear hown' hgrow
            go_wp2
            go_roundw
            case rel => exact ⟨k + 1, n + 1, by omega, by go_num, ⟨_, _, rfl⟩, HN2, OW2, BB2⟩
            case measure => simp [intOf]; omega
    · obtain rfl : k = l.length := by omega
      go_wp2
      go_ret
      have ho := OW.out
      have hn := HN.out
      rw [List.take_length] at ho hn
      exact ⟨_, rfl, by rw [← hn]; exact ho, BB.out⟩
end Go.Proofs.Ytopnhbgialbicaa
