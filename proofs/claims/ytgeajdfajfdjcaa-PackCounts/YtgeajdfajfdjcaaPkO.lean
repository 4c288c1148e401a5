/- The reader's nodes. -/
import Derived.Test.YtgeajdfajfdjcaaPkY
import Derived.Test.YtgeajdfajfdjcaaPkQ
import Derived.Test.YtgeajdfajfdjcaaPkG
import Derived.Deep.RegionHeld3
import Derived.Deep.CutRange
namespace Go.Proofs.Ytgeajdfajfdjcaa
set_option linter.unusedVariables false
set_option linter.unusedSimpArgs false
open Go.ChangeShapes Go.WideShapes Go.ChangeAt Go.RowKit

/-- A node that is being read, its sign, how many picks: three blocks. -/
structure Tri (L : Nat) (cs : Array Value) (s np : Int) (w : World) : Prop where
  hn : w.heap[L]? = some (.cells cs 46)
  hs : w.heap[L + 1]? = some (.cells #[.int .i64 s] 3)
  hp : w.heap[L + 2]? = some (.cells #[.int .i64 np] 3)
theorem Tri.setN {L : Nat} {cs : Array Value} {s np : Int} {w : World} (h : Tri L cs s np w) (k : Nat) (v : Value) : Tri L (cs.setIfInBounds k v) s np (w.setCell ⟨L, k, none⟩ v) :=
  ⟨heap_setCell_is h.hn v, (Go.Deep.blk_setCell_other w ⟨L, k, none⟩ v _ (by simp)).trans h.hs, (Go.Deep.blk_setCell_other w ⟨L, k, none⟩ v _ (by simp)).trans h.hp⟩
theorem Tri.setS {L : Nat} {cs : Array Value} {s np : Int} {w : World} (h : Tri L cs s np w) (v : Int) : Tri L cs v np (w.setCell ⟨L + 1, 0, none⟩ (.int .i64 v)) :=
  ⟨(Go.Deep.blk_setCell_other w ⟨L + 1, 0, none⟩ _ _ (by simp)).trans h.hn, heap_setCell_is h.hs _, (Go.Deep.blk_setCell_other w ⟨L + 1, 0, none⟩ _ _ (by simp)).trans h.hp⟩
theorem Tri.setP {L : Nat} {cs : Array Value} {s np : Int} {w : World} (h : Tri L cs s np w) (v : Int) : Tri L cs s v (w.setCell ⟨L + 2, 0, none⟩ (.int .i64 v)) :=
  ⟨(Go.Deep.blk_setCell_other w ⟨L + 2, 0, none⟩ _ _ (by simp)).trans h.hn, (Go.Deep.blk_setCell_other w ⟨L + 2, 0, none⟩ _ _ (by simp)).trans h.hs, heap_setCell_is h.hp _⟩
structure NdS (W : World) (rb : Nat) (cs : Array Value) (s np : Int) (r : List UInt8) (w : World) : Prop where
  tri : Tri W.heap.size cs s np w
  rd : RdAt w rb r
  gb : Gb rb W w
  hl : r.length ≤ 1048576
theorem NdS.keep {W w w' : World} {rb : Nat} {cs : Array Value} {s np : Int} {r : List UInt8} (h : NdS W rb cs s np r w) (hb : Below w.heap.size w w') : NdS W rb cs s np r w' :=
  ⟨⟨(hb.block _ (heap_lt h.tri.hn)).trans h.tri.hn, (hb.block _ (heap_lt h.tri.hs)).trans h.tri.hs, (hb.block _ (heap_lt h.tri.hp)).trans h.tri.hp⟩, (hb.block _ (heap_lt h.rd)).trans h.rd, h.gb.trans (Gb.below hb), h.hl⟩
theorem NdS.took {W w w2 Z : World} {rb : Nat} {cs cs' : Array Value} {s np s' np' : Int} {r r2 : List UInt8} (h : NdS W rb cs s np r w) (hrb : rb < W.heap.size) (hZ : Tri W.heap.size cs' s' np' Z) (hg : Gb rb W w2) (hr : RdAt w2 rb r2) (hl : r2.length ≤ 1048576) (hb : ∀ b, b < w.heap.size → b ≠ rb → w2.heap[b]? = Z.heap[b]?) : NdS W rb cs' s' np' r2 w2 :=
  ⟨⟨(hb _ (heap_lt h.tri.hn) (by omega)).trans hZ.hn, (hb _ (heap_lt h.tri.hs) (by omega)).trans hZ.hs, (hb _ (heap_lt h.tri.hp) (by omega)).trans hZ.hp⟩, hr, hg, hl⟩
/-- What the head of a node leaves where it is none. -/
def HeadNo (W : World) (rb : Nat) (l : List UInt8) (w : World) : Prop := Gb rb W w ∧ ndR l = none
def HeadYes (W : World) (rb : Nat) (l : List UInt8) (w : World) : Prop := ∃ (s k nm ru c p i j rk np : Int) (l5 : List UInt8), (0 ≤ np ∧ np ≤ 65535) ∧ ndR l = (match manyR pkR np.toNat l5 with | some (ps, l6) => some (⟨decide (s = 1), k, nm, ru, c, p, i, j, rk, ps⟩, l6) | none => none) ∧ NdS W rb #[.bool false, .int .i64 k, .int .i64 nm, .int .i64 ru, .int .i64 c, .int .i64 p, .int .i64 i, .int .i64 j, .int .i64 rk, .slice none 0 0] s np l5 w
theorem takeA {W : World} {rb : Nat} {r : List UInt8} {w : World} (hrb : rb < W.heap.size) (h : NdS W rb #[.bool false, .int .i64 0, .int .i64 0, .int .i64 0, .int .i64 0, .int .i64 0, .int .i64 0, .int .i64 0, .int .i64 0, .slice none 0 0] 0 0 r w) :
    Calls Try.prog 51 #[.pointer (some ⟨rb, 0, none⟩), .slice (some ⟨w.heap.size, 0, none⟩) 2 2] (w.alloc (.cells #[.pointer (some ⟨W.heap.size + 1, 0, none⟩), .pointer (some ⟨W.heap.size, 1, none⟩)] 92)) fun e w2 => ∃ ok, e = .returned (.bool ok) ∧ Hid (Gb rb W w2) ∧ Hid (ok = false → manyR (numR 1) 2 r = none) ∧ Hid (ok = true → ∃ s k r2, manyR (numR 1) 2 r = some ([s, k], r2) ∧ NdS W rb #[.bool false, .int .i64 k, .int .i64 0, .int .i64 0, .int .i64 0, .int .i64 0, .int .i64 0, .int .i64 0, .int .i64 0, .slice none 0 0] s 0 r2 w2) := by
  refine (taken_u8 W w rb r [(W.heap.size + 1, 0), (W.heap.size, 1)] (n := 2) rfl (by simp) h.gb hrb h.rd h.hl (fun a ha => ?_)).mono ?_
  · simp only [List.mem_cons, List.not_mem_nil, or_false] at ha
    rcases ha with rfl | rfl
    · exact ⟨by (first | (simp; done) | omega), _, _, h.tri.hs, by simp⟩
    · exact ⟨by (first | (simp; done) | omega), _, _, h.tri.hn, by simp⟩
  · rintro e w2 ⟨ok, h1, h2, h3⟩
    refine ⟨ok, h1, h2, ?_, ?_⟩
    · intro e0
      have h4 := h3.out
      simp only [List.length_cons, List.length_nil, Nat.zero_add, Nat.reduceAdd] at h4
      cases hm : manyR (numR 1) 2 r with
      | none => rfl
      | some q =>
        rw [hm] at h4
        exact absurd (e0.symm.trans h4.1) (by decide)
    · intro e0
      have h4 := h3.out
      simp only [List.length_cons, List.length_nil, Nat.zero_add, Nat.reduceAdd] at h4
      cases hm : manyR (numR 1) 2 r with
      | none =>
        rw [hm] at h4
        exact absurd (e0.symm.trans h4) (by decide)
      | some q =>
        obtain ⟨vs, r2⟩ := q
        rw [hm] at h4
        obtain ⟨g1, g2, g3, g4, g5, g6⟩ := h4
        obtain ⟨s, k, rfl⟩ := len2 g2
        exact ⟨s, k, r2, rfl, h.took hrb ((h.tri.setS s).setN 1 (.int .i64 k)) h2.out g3 g5 g6⟩
theorem takeB {W : World} {rb : Nat} {r : List UInt8} {w : World} (s k : Int) (hrb : rb < W.heap.size) (h : NdS W rb #[.bool false, .int .i64 k, .int .i64 0, .int .i64 0, .int .i64 0, .int .i64 0, .int .i64 0, .int .i64 0, .int .i64 0, .slice none 0 0] s 0 r w) :
    Calls Try.prog 52 #[.pointer (some ⟨rb, 0, none⟩), .slice (some ⟨w.heap.size, 0, none⟩) 2 2] (w.alloc (.cells #[.pointer (some ⟨W.heap.size, 2, none⟩), .pointer (some ⟨W.heap.size, 3, none⟩)] 92)) fun e w2 => ∃ ok, e = .returned (.bool ok) ∧ Hid (Gb rb W w2) ∧ Hid (ok = false → manyR (numR 2) 2 r = none) ∧ Hid (ok = true → ∃ nm ru r2, manyR (numR 2) 2 r = some ([nm, ru], r2) ∧ NdS W rb #[.bool false, .int .i64 k, .int .i64 nm, .int .i64 ru, .int .i64 0, .int .i64 0, .int .i64 0, .int .i64 0, .int .i64 0, .slice none 0 0] s 0 r2 w2) := by
  refine (taken_u16 W w rb r [(W.heap.size, 2), (W.heap.size, 3)] (n := 2) rfl (by simp) h.gb hrb h.rd h.hl (fun a ha => ?_)).mono ?_
  · simp only [List.mem_cons, List.not_mem_nil, or_false] at ha
    rcases ha with rfl | rfl
    · exact ⟨by (first | (simp; done) | omega), _, _, h.tri.hn, by simp⟩
    · exact ⟨by (first | (simp; done) | omega), _, _, h.tri.hn, by simp⟩
  · rintro e w2 ⟨ok, h1, h2, h3⟩
    refine ⟨ok, h1, h2, ?_, ?_⟩
    · intro e0
      have h4 := h3.out
      simp only [List.length_cons, List.length_nil, Nat.zero_add, Nat.reduceAdd] at h4
      cases hm : manyR (numR 2) 2 r with
      | none => rfl
      | some q =>
        rw [hm] at h4
        exact absurd (e0.symm.trans h4.1) (by decide)
    · intro e0
      have h4 := h3.out
      simp only [List.length_cons, List.length_nil, Nat.zero_add, Nat.reduceAdd] at h4
      cases hm : manyR (numR 2) 2 r with
      | none =>
        rw [hm] at h4
        exact absurd (e0.symm.trans h4) (by decide)
      | some q =>
        obtain ⟨vs, r2⟩ := q
        rw [hm] at h4
        obtain ⟨g1, g2, g3, g4, g5, g6⟩ := h4
        obtain ⟨nm, ru, rfl⟩ := len2 g2
        exact ⟨nm, ru, r2, rfl, h.took hrb ((h.tri.setN 2 (.int .i64 nm)).setN 3 (.int .i64 ru)) h2.out g3 g5 g6⟩
theorem takeC {W : World} {rb : Nat} {r : List UInt8} {w : World} (s k nm ru : Int) (hrb : rb < W.heap.size) (h : NdS W rb #[.bool false, .int .i64 k, .int .i64 nm, .int .i64 ru, .int .i64 0, .int .i64 0, .int .i64 0, .int .i64 0, .int .i64 0, .slice none 0 0] s 0 r w) :
    Calls Try.prog 51 #[.pointer (some ⟨rb, 0, none⟩), .slice (some ⟨w.heap.size, 0, none⟩) 4 4] (w.alloc (.cells #[.pointer (some ⟨W.heap.size, 4, none⟩), .pointer (some ⟨W.heap.size, 5, none⟩), .pointer (some ⟨W.heap.size, 6, none⟩), .pointer (some ⟨W.heap.size, 7, none⟩)] 92)) fun e w2 => ∃ ok, e = .returned (.bool ok) ∧ Hid (Gb rb W w2) ∧ Hid (ok = false → manyR (numR 1) 4 r = none) ∧ Hid (ok = true → ∃ c p i j r2, manyR (numR 1) 4 r = some ([c, p, i, j], r2) ∧ NdS W rb #[.bool false, .int .i64 k, .int .i64 nm, .int .i64 ru, .int .i64 c, .int .i64 p, .int .i64 i, .int .i64 j, .int .i64 0, .slice none 0 0] s 0 r2 w2) := by
  refine (taken_u8 W w rb r [(W.heap.size, 4), (W.heap.size, 5), (W.heap.size, 6), (W.heap.size, 7)] (n := 4) rfl (by simp) h.gb hrb h.rd h.hl (fun a ha => ?_)).mono ?_
  · simp only [List.mem_cons, List.not_mem_nil, or_false] at ha
    rcases ha with rfl | rfl | rfl | rfl
    · exact ⟨by (first | (simp; done) | omega), _, _, h.tri.hn, by simp⟩
    · exact ⟨by (first | (simp; done) | omega), _, _, h.tri.hn, by simp⟩
    · exact ⟨by (first | (simp; done) | omega), _, _, h.tri.hn, by simp⟩
    · exact ⟨by (first | (simp; done) | omega), _, _, h.tri.hn, by simp⟩
  · rintro e w2 ⟨ok, h1, h2, h3⟩
    refine ⟨ok, h1, h2, ?_, ?_⟩
    · intro e0
      have h4 := h3.out
      simp only [List.length_cons, List.length_nil, Nat.zero_add, Nat.reduceAdd] at h4
      cases hm : manyR (numR 1) 4 r with
      | none => rfl
      | some q =>
        rw [hm] at h4
        exact absurd (e0.symm.trans h4.1) (by decide)
    · intro e0
      have h4 := h3.out
      simp only [List.length_cons, List.length_nil, Nat.zero_add, Nat.reduceAdd] at h4
      cases hm : manyR (numR 1) 4 r with
      | none =>
        rw [hm] at h4
        exact absurd (e0.symm.trans h4) (by decide)
      | some q =>
        obtain ⟨vs, r2⟩ := q
        rw [hm] at h4
        obtain ⟨g1, g2, g3, g4, g5, g6⟩ := h4
        obtain ⟨c, p, i, j, rfl⟩ := len4 g2
        exact ⟨c, p, i, j, r2, rfl, h.took hrb ((((h.tri.setN 4 (.int .i64 c)).setN 5 (.int .i64 p)).setN 6 (.int .i64 i)).setN 7 (.int .i64 j)) h2.out g3 g5 g6⟩
theorem takeD {W : World} {rb : Nat} {r : List UInt8} {w : World} (s k nm ru c p i j : Int) (hrb : rb < W.heap.size) (h : NdS W rb #[.bool false, .int .i64 k, .int .i64 nm, .int .i64 ru, .int .i64 c, .int .i64 p, .int .i64 i, .int .i64 j, .int .i64 0, .slice none 0 0] s 0 r w) :
    Calls Try.prog 38 #[.pointer (some ⟨rb, 0, none⟩), .slice (some ⟨w.heap.size, 0, none⟩) 1 1] (w.alloc (.cells #[.pointer (some ⟨W.heap.size, 8, none⟩)] 92)) fun e w2 => ∃ ok, e = .returned (.bool ok) ∧ Hid (Gb rb W w2) ∧ Hid (ok = false → manyR (numR 4) 1 r = none) ∧ Hid (ok = true → ∃ rk r2, manyR (numR 4) 1 r = some ([rk], r2) ∧ NdS W rb #[.bool false, .int .i64 k, .int .i64 nm, .int .i64 ru, .int .i64 c, .int .i64 p, .int .i64 i, .int .i64 j, .int .i64 rk, .slice none 0 0] s 0 r2 w2) := by
  refine (taken_u32 W w rb r [(W.heap.size, 8)] (n := 1) rfl (by simp) h.gb hrb h.rd h.hl (fun a ha => ?_)).mono ?_
  · simp only [List.mem_cons, List.not_mem_nil, or_false] at ha
    rcases ha with rfl
    · exact ⟨by (first | (simp; done) | omega), _, _, h.tri.hn, by simp⟩
  · rintro e w2 ⟨ok, h1, h2, h3⟩
    refine ⟨ok, h1, h2, ?_, ?_⟩
    · intro e0
      have h4 := h3.out
      simp only [List.length_cons, List.length_nil, Nat.zero_add, Nat.reduceAdd] at h4
      cases hm : manyR (numR 4) 1 r with
      | none => rfl
      | some q =>
        rw [hm] at h4
        exact absurd (e0.symm.trans h4.1) (by decide)
    · intro e0
      have h4 := h3.out
      simp only [List.length_cons, List.length_nil, Nat.zero_add, Nat.reduceAdd] at h4
      cases hm : manyR (numR 4) 1 r with
      | none =>
        rw [hm] at h4
        exact absurd (e0.symm.trans h4) (by decide)
      | some q =>
        obtain ⟨vs, r2⟩ := q
        rw [hm] at h4
        obtain ⟨g1, g2, g3, g4, g5, g6⟩ := h4
        obtain ⟨rk, rfl⟩ := len1 g2
        exact ⟨rk, r2, rfl, h.took hrb (h.tri.setN 8 (.int .i64 rk)) h2.out g3 g5 g6⟩
theorem takeE {W : World} {rb : Nat} {r : List UInt8} {w : World} (s k nm ru c p i j rk : Int) (hrb : rb < W.heap.size) (h : NdS W rb #[.bool false, .int .i64 k, .int .i64 nm, .int .i64 ru, .int .i64 c, .int .i64 p, .int .i64 i, .int .i64 j, .int .i64 rk, .slice none 0 0] s 0 r w) :
    Calls Try.prog 52 #[.pointer (some ⟨rb, 0, none⟩), .slice (some ⟨w.heap.size, 0, none⟩) 1 1] (w.alloc (.cells #[.pointer (some ⟨W.heap.size + 1 + 1, 0, none⟩)] 92)) fun e w2 => ∃ ok, e = .returned (.bool ok) ∧ Hid (Gb rb W w2) ∧ Hid (ok = false → manyR (numR 2) 1 r = none) ∧ Hid (ok = true → ∃ np r2, manyR (numR 2) 1 r = some ([np], r2) ∧ NdS W rb #[.bool false, .int .i64 k, .int .i64 nm, .int .i64 ru, .int .i64 c, .int .i64 p, .int .i64 i, .int .i64 j, .int .i64 rk, .slice none 0 0] s np r2 w2) := by
  refine (taken_u16 W w rb r [(W.heap.size + 1 + 1, 0)] (n := 1) rfl (by simp) h.gb hrb h.rd h.hl (fun a ha => ?_)).mono ?_
  · simp only [List.mem_cons, List.not_mem_nil, or_false] at ha
    rcases ha with rfl
    · exact ⟨by (first | (simp; done) | omega), _, _, h.tri.hp, by simp⟩
  · rintro e w2 ⟨ok, h1, h2, h3⟩
    refine ⟨ok, h1, h2, ?_, ?_⟩
    · intro e0
      have h4 := h3.out
      simp only [List.length_cons, List.length_nil, Nat.zero_add, Nat.reduceAdd] at h4
      cases hm : manyR (numR 2) 1 r with
      | none => rfl
      | some q =>
        rw [hm] at h4
        exact absurd (e0.symm.trans h4.1) (by decide)
    · intro e0
      have h4 := h3.out
      simp only [List.length_cons, List.length_nil, Nat.zero_add, Nat.reduceAdd] at h4
      cases hm : manyR (numR 2) 1 r with
      | none =>
        rw [hm] at h4
        exact absurd (e0.symm.trans h4) (by decide)
      | some q =>
        obtain ⟨vs, r2⟩ := q
        rw [hm] at h4
        obtain ⟨g1, g2, g3, g4, g5, g6⟩ := h4
        obtain ⟨np, rfl⟩ := len1 g2
        exact ⟨np, r2, rfl, h.took hrb (h.tri.setP np) h2.out g3 g5 g6⟩
theorem Try.infoPkP : (Try.prog.info? 49).map (fun i => (i.zero, i.size, i.bytes)) = some (some (.agg #[.int .i64 0, .int .i64 0, .slice none 0 0]), 3, 40) := by kernel_rfl
theorem as_pk (a c : Int) (p : Option Addr) (n cp : Nat) (w : World) : (Instr.typeAssert (.iface 49 (.agg #[.int .i64 a, .int .i64 c, .slice p n cp])) 20 49 true).run Try.prog w = .ok (.tuple #[.agg #[.int .i64 a, .int .i64 c, .slice p n cp], .bool true]) w := by kernel_rfl
theorem as_pkn (w : World) : (Instr.typeAssert .nilIface 20 49 true).run Try.prog w = .ok (.tuple #[.agg #[.int .i64 0, .int .i64 0, .slice none 0 0], .bool false]) w := by kernel_rfl
/-- What reading a node leaves. -/
def NodeEnd (W : World) (rb : Nat) (l : List UInt8) (e : Ending) (w' : World) : Prop := Hid (Gb rb W w') ∧ (match ndR l with
  | some (n, l') => ∃ pv cv, e = .returned (.iface 46 (.agg #[.bool n.sign, .int .i64 n.kind, .int .i64 n.name, .int .i64 n.rule, .int .i64 n.conj, .int .i64 n.pos, .int .i64 n.i, .int .i64 n.j, .int .i64 n.rank, .slice pv n.picks.length cv])) ∧ Hid (RdAt w' rb l' ∧ IsPks w' (fun b => W.heap.size ≤ b) (.slice pv n.picks.length cv) n.picks ∧ l'.length ≤ 1048576)
  | none => e = .returned .nilIface)
structure NdL (W : World) (rb : Nat) (n : Nd) (p : Option Addr) (k cp : Nat) (ps : List Pk) (us : List Value) (F : Nat → Prop) (r : List UInt8) (w : World) : Prop where
  hn : w.heap[W.heap.size]? = some (.cells #[.bool n.sign, .int .i64 n.kind, .int .i64 n.name, .int .i64 n.rule, .int .i64 n.conj, .int .i64 n.pos, .int .i64 n.i, .int .i64 n.j, .int .i64 n.rank, .slice p k cp] 46)
  own : w.ownsRow W.heap.size 49 3 (.slice p k cp) k (pksV ps us)
  pin : PksIn w F ps us
  fl : ∀ b, F b → W.heap.size < b ∧ b < w.heap.size
  no : ∀ b, (Value.slice p k cp).ownBlock = some b → ¬ F b
  rd : RdAt w rb r
  gb : Gb rb W w
  hl : r.length ≤ 1048576
theorem row_noN {w : World} {B n pb : Nat} {v : Value} {xs : List Value} {arr : Array Value} (h : w.ownsRow B 49 3 v n xs) (hr : w.heap[pb]? = some (.cells arr 46)) : v.ownBlock ≠ some pb := own_neL h hr (by decide)
theorem row_noR {w : World} {B n rb : Nat} {v : Value} {xs : List Value} {l : List UInt8} (h : w.ownsRow B 49 3 v n xs) (hr : RdAt w rb l) : v.ownBlock ≠ some rb := own_neL h hr (by decide)
theorem NdL.push {W w w2 : World} {rb : Nat} {n : Nd} {p : Option Addr} {k cp : Nat} {ps : List Pk} {us : List Value} {F : Nat → Prop} {r r2 : List UInt8} (h : NdL W rb n p k cp ps us F r w) (hrb : rb < W.heap.size) (x : Pk) (pv : Option Addr) (cv : Nat) (hg : Gb rb w w2) (hr : RdAt w2 rb r2) (hz : IsZs w2 (fun b => w.heap.size ≤ b) (.slice pv x.kids.length cv) x.kids) (hl : r2.length ≤ 1048576) (hk : k ≤ 65535) :
    ∃ p2 cp2 w4, (Builtin.append_ #[44, 44] 44 #[.slice p k cp, .slice (some ⟨w2.heap.size + 1, 0, none⟩) 1 1]).run Try.prog ((w2.alloc (.cells #[.int .i64 x.at_, .int .i64 x.conj, .slice pv x.kids.length cv] 49)).alloc (.cells #[.int .i64 x.at_, .int .i64 x.conj, .slice pv x.kids.length cv] 49)) = .ok (.slice p2 (k + 1) cp2) w4 ∧ w4.cell? ⟨W.heap.size, 9, none⟩ = some (.slice p k cp) ∧ w4.frozen? ⟨W.heap.size, 9, none⟩ = false ∧ Hid (∃ us2 F2, NdL W rb n p2 (k + 1) cp2 (ps ++ [x]) us2 F2 r2 (w4.setCell ⟨W.heap.size, 9, none⟩ (.slice p2 (k + 1) cp2))) ∧ w2.cell? ⟨W.heap.size, 9, none⟩ = some (.slice p k cp) := by
  obtain ⟨i, hi, hzr, hsz, hby⟩ := info_parts Try.infoPkP
  obtain ⟨A, hA⟩ : ∃ A, A = Obj.cells #[.int .i64 x.at_, .int .i64 x.conj, .slice pv x.kids.length cv] 49 := ⟨_, rfl⟩
  have hn1 := heap_lt h.hn
  have hne0 := row_noN h.own h.hn
  have hnr0 := row_noR h.own h.rd
  have own2 : w2.ownsRow W.heap.size 49 3 (.slice p k cp) k (pksV ps us) := h.own.kept hg (Or.inr hnr0)
  have hn2 := (hg.blk hn1 (by omega)).trans h.hn
  have pin2 : PksIn w2 F ps us := h.pin.keep (hg.stay (fun b hb => ⟨(h.fl b hb).2, by have := (h.fl b hb).1; omega⟩)) (fun _ hb => hb)
  rw [← hA]
  obtain ⟨w3, hw3⟩ : ∃ w3, w3 = (w2.alloc A).alloc A := ⟨_, rfl⟩
  have b3 : Below w2.heap.size w2 w3 := by rw [hw3]; exact (bel1 _ _).alloc (by simp) _
  have s3 : w3.heap.size = w2.heap.size + 2 := by rw [hw3]; simp
  have n3 : w3.heap[w2.heap.size + 1]? = some A := by
    rw [hw3]
    have := heap_alloc_new (w2.alloc A) A
    rw [show (w2.alloc A).heap.size = w2.heap.size + 1 by simp] at this
    exact this
  rw [← hw3]
  have own3 := row_keep own2 b3
  have gb3 : Gb rb W w3 := h.gb.trans (hg.trans (Gb.below b3))
  obtain ⟨p2, cp2, w4, h1, h2, h3, h4⟩ := run_append_one (P := Try.prog) W.heap.size 44 49 i _ 3 40 Try.underlying44 hi hzr hsz hby rfl (by omega) _ k (pksV ps us) own3 (w2.heap.size + 1) [.int .i64 x.at_, .int .i64 x.conj, .slice pv x.kids.length cv] (fun j y hy => by rw [hA] at n3; exact (Lib.cell_of_heap n3 j).trans (by simpa using hy)) rfl (by intro y hy; simp at hy; rcases hy with rfl | rfl | rfl <;> rfl) (by unfold maxLen; omega) (by omega) gb3.size
  have hn3 := (b3.block _ (heap_lt hn2)).trans hn2
  have r3 : RdAt w3 rb r2 := (b3.block _ (heap_lt hr)).trans hr
  have hne3 := row_noN own3 hn3
  have hnr3 := row_noR own3 r3
  have hn4 := (h3.block _ (heap_lt hn3) (Ne.symm hne3)).trans hn3
  have r4 : RdAt w4 rb r2 := (h3.block _ (heap_lt r3) (Ne.symm hnr3)).trans r3
  have hne4 := row_noN h2 hn4
  have g4 : Gb rb W w4 := ⟨h3.os.trans gb3.os, h3.tape.trans gb3.tape, h3.output.trans gb3.output, Nat.le_trans gb3.size h3.size, fun i hi hne2 => (h3.block i (Nat.lt_of_lt_of_le hi gb3.size) (fun e => by have := (own3.lt i e.symm).1; omega)).trans (gb3.block i hi hne2)⟩
  have hws := h.gb.size
  have hw2s := hg.size
  have z4 : IsZs w4 (fun b => w.heap.size ≤ b ∧ b < w2.heap.size) (.slice pv x.kids.length cv) x.kids := by
    have z2 : IsZs w2 (fun b => w.heap.size ≤ b ∧ b < w2.heap.size) (.slice pv x.kids.length cv) x.kids := Reads.low hz (fun b h1 h2 => ⟨h1, h2⟩)
    refine Reads.keep (Reads.keep z2 (stay_below b3 (fun b hb => hb.2)) (fun _ hb => hb)) ⟨h3.size, fun b hb => h3.block b (by omega) (fun e => ?_)⟩ (fun _ hb => hb)
    have := (h.own.lt b e.symm).2
    omega
  have pin4 : PksIn w4 F ps us := by
    refine (pin2.keep (stay_below b3 (fun b hb => by have := (h.fl b hb).2; omega)) (fun _ hb => hb)).keep ⟨h3.size, fun b hb => h3.block b (by have := (h.fl b hb).2; omega) (fun e => h.no b e.symm hb)⟩ (fun _ hb => hb)
  have F2z : ∀ b, (F b ∨ (w.heap.size ≤ b ∧ b < w2.heap.size)) → W.heap.size < b ∧ b < w4.heap.size := fun b hb => by
    have := h3.size
    rcases hb with hb | hb
    · have := h.fl b hb; omega
    · exact ⟨by omega, by omega⟩
  refine ⟨p2, cp2, w4, h1, Lib.cell_of_heap hn4 9, Lib.frozen_of_heap hn4 9, ?_, Lib.cell_of_heap hn2 9⟩
  have hin := in_snoc (P := fun y u => IsZs w4 (fun b => F b ∨ (w.heap.size ≤ b ∧ b < w2.heap.size)) u y.kids) pin4.1 (fun j y u e1 e2 => Reads.low (pin4.2 j y u e1 e2) (fun b hb _ => Or.inl hb)) (a := x) (v := .slice pv x.kids.length cv) (Reads.low z4 (fun b hb _ => Or.inr hb))
  have hst : Stay (fun b => F b ∨ (w.heap.size ≤ b ∧ b < w2.heap.size)) w4 (w4.setCell ⟨W.heap.size, 9, none⟩ (.slice p2 (k + 1) cp2)) := ⟨by simp [World.setCell], fun b hb => Go.Deep.blk_setCell_other _ ⟨W.heap.size, 9, none⟩ _ _ (by have := (F2z b hb).1; show b ≠ W.heap.size; omega)⟩
  refine ⟨us ++ [.slice pv x.kids.length cv], fun b => F b ∨ (w.heap.size ≤ b ∧ b < w2.heap.size), ?_, ?_, ?_, ?_, ?_, ?_, ?_, hl⟩
  · exact heap_setCell_is hn4 _
  · rw [pksV_app _ _ _ _ h.pin.1]
    exact ownsRow_setP h2 hne4 _
  · exact PksIn.keep ⟨hin.1, hin.2⟩ hst (fun _ hb => hb)
  · intro b hb
    have := F2z b hb
    simpa [World.setCell] using this
  · intro b hb hF
    rcases h4 with e | e
    · rw [e] at hb
      rcases hF with hF | hF
      · exact h.no b hb hF
      · have := (h.own.lt b hb).2; omega
    · rw [e] at hb
      have hb : w3.heap.size = b := Option.some.inj hb
      rcases hF with hF | hF
      · have := (h.fl b hF).2; omega
      · omega
  · exact (Go.Deep.blk_setCell_other _ ⟨W.heap.size, 9, none⟩ _ _ (by show rb ≠ W.heap.size; omega)).trans r4
  · exact ⟨g4.os, g4.tape, g4.output, by have := g4.size; simpa [World.setCell] using this, fun i hi hne3 => (Go.Deep.blk_setCell_other _ ⟨W.heap.size, 9, none⟩ _ _ (by show i ≠ W.heap.size; omega)).trans (g4.block i hi hne3)⟩
set_option maxHeartbeats 16000000 in
set_option maxRecDepth 100000 in
theorem rnode_any (W : World) (rb : Nat) (l : List UInt8) (hr : RdAt W rb l) (hl : l.length ≤ 1048576) :
    Calls Try.prog 39 #[.pointer (some ⟨rb, 0, none⟩)] W fun e w' => NodeEnd W rb l e w' := by
  have hrb : rb < W.heap.size := heap_lt hr
  obtain ⟨Z, hZ⟩ : ∃ Z, Z = Obj.cells #[.bool false, .int .i64 0, .int .i64 0, .int .i64 0, .int .i64 0, .int .i64 0, .int .i64 0, .int .i64 0, .int .i64 0, .slice none 0 0] 46 := ⟨_, rfl⟩
  obtain ⟨X, hX⟩ : ∃ X, X = ((W.alloc Z).alloc (.cells #[.int .i64 0] 3)).alloc (.cells #[.int .i64 0] 3) := ⟨_, rfl⟩
  have N1 : NdS W rb #[.bool false, .int .i64 0, .int .i64 0, .int .i64 0, .int .i64 0, .int .i64 0, .int .i64 0, .int .i64 0, .int .i64 0, .slice none 0 0] 0 0 l X := by
    have hb : Below W.heap.size W X := by rw [hX]; exact ((bel1 _ _).alloc (by simp) _).alloc (by simp; omega) _
    refine ⟨⟨?_, ?_, ?_⟩, (hb.block rb hrb).trans hr, Gb.below hb, hl⟩
    · rw [hX, ← hZ]; exact (heap_alloc_old' _ (by simp; omega)).trans ((heap_alloc_old' _ (by simp)).trans (heap_alloc_new _ _))
    · rw [hX]
      refine (heap_alloc_old' _ (by simp)).trans ?_
      have := heap_alloc_new (W.alloc Z) (.cells #[.int .i64 0] 3)
      rw [show (W.alloc Z).heap.size = W.heap.size + 1 by simp] at this
      exact this
    · rw [hX]
      have := heap_alloc_new ((W.alloc Z).alloc (.cells #[.int .i64 0] 3)) (.cells #[.int .i64 0] 3)
      rw [show ((W.alloc Z).alloc (.cells #[.int .i64 0] 3)).heap.size = W.heap.size + 2 by simp] at this
      exact this
  have HN1 : Hid (NdS W rb #[.bool false, .int .i64 0, .int .i64 0, .int .i64 0, .int .i64 0, .int .i64 0, .int .i64 0, .int .i64 0, .int .i64 0, .slice none 0 0] 0 0 l X) := N1
  have KA : Calls Try.prog 51 #[.pointer (some ⟨rb, 0, none⟩), .slice (some ⟨X.heap.size, 0, none⟩) 2 2] (X.alloc (.cells #[.pointer (some ⟨W.heap.size + 1, 0, none⟩), .pointer (some ⟨W.heap.size, 1, none⟩)] 92)).drew _ := takeA hrb (w := X.drew) (N1.keep (Below.refl _ _).drew)
  have KB : Hid (∀ (s k : Int) (r : List UInt8) (w : World), NdS W rb #[.bool false, .int .i64 k, .int .i64 0, .int .i64 0, .int .i64 0, .int .i64 0, .int .i64 0, .int .i64 0, .int .i64 0, .slice none 0 0] s 0 r w → Calls Try.prog 52 #[.pointer (some ⟨rb, 0, none⟩), .slice (some ⟨w.heap.size, 0, none⟩) 2 2] (w.alloc (.cells #[.pointer (some ⟨W.heap.size, 2, none⟩), .pointer (some ⟨W.heap.size, 3, none⟩)] 92)) fun e w2 => ∃ ok, e = .returned (.bool ok) ∧ Hid (Gb rb W w2) ∧ Hid (ok = false → manyR (numR 2) 2 r = none) ∧ Hid (ok = true → ∃ nm ru r2, manyR (numR 2) 2 r = some ([nm, ru], r2) ∧ NdS W rb #[.bool false, .int .i64 k, .int .i64 nm, .int .i64 ru, .int .i64 0, .int .i64 0, .int .i64 0, .int .i64 0, .int .i64 0, .slice none 0 0] s 0 r2 w2)) := fun s k r w h => takeB s k hrb h
  have KC : Hid (∀ (s k nm ru : Int) (r : List UInt8) (w : World), NdS W rb #[.bool false, .int .i64 k, .int .i64 nm, .int .i64 ru, .int .i64 0, .int .i64 0, .int .i64 0, .int .i64 0, .int .i64 0, .slice none 0 0] s 0 r w → Calls Try.prog 51 #[.pointer (some ⟨rb, 0, none⟩), .slice (some ⟨w.heap.size, 0, none⟩) 4 4] (w.alloc (.cells #[.pointer (some ⟨W.heap.size, 4, none⟩), .pointer (some ⟨W.heap.size, 5, none⟩), .pointer (some ⟨W.heap.size, 6, none⟩), .pointer (some ⟨W.heap.size, 7, none⟩)] 92)) fun e w2 => ∃ ok, e = .returned (.bool ok) ∧ Hid (Gb rb W w2) ∧ Hid (ok = false → manyR (numR 1) 4 r = none) ∧ Hid (ok = true → ∃ c p i j r2, manyR (numR 1) 4 r = some ([c, p, i, j], r2) ∧ NdS W rb #[.bool false, .int .i64 k, .int .i64 nm, .int .i64 ru, .int .i64 c, .int .i64 p, .int .i64 i, .int .i64 j, .int .i64 0, .slice none 0 0] s 0 r2 w2)) := fun s k nm ru r w h => takeC s k nm ru hrb h
  have KD : Hid (∀ (s k nm ru c p i j : Int) (r : List UInt8) (w : World), NdS W rb #[.bool false, .int .i64 k, .int .i64 nm, .int .i64 ru, .int .i64 c, .int .i64 p, .int .i64 i, .int .i64 j, .int .i64 0, .slice none 0 0] s 0 r w → Calls Try.prog 38 #[.pointer (some ⟨rb, 0, none⟩), .slice (some ⟨w.heap.size, 0, none⟩) 1 1] (w.alloc (.cells #[.pointer (some ⟨W.heap.size, 8, none⟩)] 92)) fun e w2 => ∃ ok, e = .returned (.bool ok) ∧ Hid (Gb rb W w2) ∧ Hid (ok = false → manyR (numR 4) 1 r = none) ∧ Hid (ok = true → ∃ rk r2, manyR (numR 4) 1 r = some ([rk], r2) ∧ NdS W rb #[.bool false, .int .i64 k, .int .i64 nm, .int .i64 ru, .int .i64 c, .int .i64 p, .int .i64 i, .int .i64 j, .int .i64 rk, .slice none 0 0] s 0 r2 w2)) := fun s k nm ru c p i j r w h => takeD s k nm ru c p i j hrb h
  have KE : Hid (∀ (s k nm ru c p i j rk : Int) (r : List UInt8) (w : World), NdS W rb #[.bool false, .int .i64 k, .int .i64 nm, .int .i64 ru, .int .i64 c, .int .i64 p, .int .i64 i, .int .i64 j, .int .i64 rk, .slice none 0 0] s 0 r w → Calls Try.prog 52 #[.pointer (some ⟨rb, 0, none⟩), .slice (some ⟨w.heap.size, 0, none⟩) 1 1] (w.alloc (.cells #[.pointer (some ⟨W.heap.size + 1 + 1, 0, none⟩)] 92)) fun e w2 => ∃ ok, e = .returned (.bool ok) ∧ Hid (Gb rb W w2) ∧ Hid (ok = false → manyR (numR 2) 1 r = none) ∧ Hid (ok = true → ∃ np r2, manyR (numR 2) 1 r = some ([np], r2) ∧ NdS W rb #[.bool false, .int .i64 k, .int .i64 nm, .int .i64 ru, .int .i64 c, .int .i64 p, .int .i64 i, .int .i64 j, .int .i64 rk, .slice none 0 0] s np r2 w2)) := fun s k nm ru c p i j rk r w h => takeE s k nm ru c p i j rk hrb h
  have HNO1 : Hid (manyR (numR 1) 2 l = none → ndR l = none) := fun h => by unfold ndR; simp only [h]
  have HNO2 : Hid (∀ (s k : Int) (l1 : List UInt8), manyR (numR 1) 2 l = some ([s, k], l1) → manyR (numR 2) 2 l1 = none → ndR l = none) := fun s k l1 h2 h3 => by unfold ndR; simp only [h2, h3]
  have HNO3 : Hid (∀ (s k : Int) (l1 : List UInt8) (nm ru : Int) (l2 : List UInt8), manyR (numR 1) 2 l = some ([s, k], l1) → manyR (numR 2) 2 l1 = some ([nm, ru], l2) → manyR (numR 1) 4 l2 = none → ndR l = none) := fun s k l1 nm ru l2 h2 h3 h4 => by unfold ndR; simp only [h2, h3, h4]
  have HNO4 : Hid (∀ (s k : Int) (l1 : List UInt8) (nm ru : Int) (l2 : List UInt8) (c p i j : Int) (l3 : List UInt8), manyR (numR 1) 2 l = some ([s, k], l1) → manyR (numR 2) 2 l1 = some ([nm, ru], l2) → manyR (numR 1) 4 l2 = some ([c, p, i, j], l3) → manyR (numR 4) 1 l3 = none → ndR l = none) := fun s k l1 nm ru l2 c p i j l3 h2 h3 h4 h5 => by unfold ndR; simp only [h2, h3, h4, h5]
  have HNO5 : Hid (∀ (s k : Int) (l1 : List UInt8) (nm ru : Int) (l2 : List UInt8) (c p i j : Int) (l3 : List UInt8) (rk : Int) (l4 : List UInt8), manyR (numR 1) 2 l = some ([s, k], l1) → manyR (numR 2) 2 l1 = some ([nm, ru], l2) → manyR (numR 1) 4 l2 = some ([c, p, i, j], l3) → manyR (numR 4) 1 l3 = some ([rk], l4) → manyR (numR 2) 1 l4 = none → ndR l = none) := fun s k l1 nm ru l2 c p i j l3 rk l4 h2 h3 h4 h5 h6 => by unfold ndR; simp only [h2, h3, h4, h5, h6]
  have HNO6 : Hid (∀ (s k : Int) (l1 : List UInt8) (nm ru : Int) (l2 : List UInt8) (c p i j : Int) (l3 : List UInt8) (rk : Int) (l4 : List UInt8) (np : Int) (l5 : List UInt8), manyR (numR 1) 2 l = some ([s, k], l1) → manyR (numR 2) 2 l1 = some ([nm, ru], l2) → manyR (numR 1) 4 l2 = some ([c, p, i, j], l3) → manyR (numR 4) 1 l3 = some ([rk], l4) → manyR (numR 2) 1 l4 = some ([np], l5) → (1 < s ∨ isNd ⟨decide (s = 1), k, nm, ru, c, p, i, j, rk, []⟩ = false) → ndR l = none) := fun s k l1 nm ru l2 c p i j l3 rk l4 np l5 h2 h3 h4 h5 h6 h7 => by
    unfold ndR; simp only [h2, h3, h4, h5, h6]
    rw [if_pos]
    rcases h7 with h7 | h7
    · simp [h7]
    · simp [h7]
  have HYES : Hid (∀ (s k : Int) (l1 : List UInt8) (nm ru : Int) (l2 : List UInt8) (c p i j : Int) (l3 : List UInt8) (rk : Int) (l4 : List UInt8) (np : Int) (l5 : List UInt8), manyR (numR 1) 2 l = some ([s, k], l1) → manyR (numR 2) 2 l1 = some ([nm, ru], l2) → manyR (numR 1) 4 l2 = some ([c, p, i, j], l3) → manyR (numR 4) 1 l3 = some ([rk], l4) → manyR (numR 2) 1 l4 = some ([np], l5) → ¬ 1 < s → isNd ⟨decide (s = 1), k, nm, ru, c, p, i, j, rk, []⟩ = true → ndR l = (match manyR pkR np.toNat l5 with | some (ps, l6) => some (⟨decide (s = 1), k, nm, ru, c, p, i, j, rk, ps⟩, l6) | none => none)) := fun s k l1 nm ru l2 c p i j l3 rk l4 np l5 h2 h3 h4 h5 h6 h7 h8 => by
    unfold ndR; simp only [h2, h3, h4, h5, h6]
    rw [if_neg (by simp [h7, h8])]
    cases manyR pkR np.toNat l5 with
    | none => rfl
    | some q => rfl
  have HNP : Hid (∀ {r : List UInt8} {np : Int} {r2 : List UInt8}, manyR (numR 2) 1 r = some ([np], r2) → 0 ≤ np ∧ np ≤ 65535) := fun {r np r2} h => by
    have := ((many_codec (num_codec 2)).2 _ _ _ _ h).2.1
    simp only [List.all_cons, List.all_nil, Bool.and_true] at this
    unfold fitZ at this
    simp only [Bool.and_eq_true, decide_eq_true_eq] at this
    omega
  have KI : Hid (∀ (s k nm ru c p i j rk : Int) (w : World), Calls Try.prog 45 #[.agg #[.bool false, .int .i64 k, .int .i64 nm, .int .i64 ru, .int .i64 c, .int .i64 p, .int .i64 i, .int .i64 j, .int .i64 rk, .slice none 0 0]] w fun e w' => ∃ b, e = .returned (.bool b) ∧ Hid (b = isNd ⟨decide (s = 1), k, nm, ru, c, p, i, j, rk, []⟩) ∧ Hid (Below w.heap.size w w')) := fun s k nm ru c p i j rk w => by
    refine (isNode_any ⟨false, k, nm, ru, c, p, i, j, rk, []⟩ _ w).mono ?_
    rintro e w' ⟨h1, h2⟩
    exact ⟨_, h1, rfl, h2⟩
  subst hZ
  clear N1 hr
  go_enter Try.func39, Try.ntmps39
  go_upto_region 4 with fail
  rw [← hX]
  clear hX
  go_cut [60] from 10 to 60 (fun x wc => ∃ bb, x = .bool bb ∧ Hid (bb = true → HeadNo W rb l wc) ∧ Hid (bb = false → HeadYes W rb l wc))
  case first =>
    refine wp_region_noPanic ?_
    (try simp only [List.append])
    refine wp_region_held_drew (S := fun _ => True) (by kernel_rfl) trivial (fun hHeld => ?_)
    refine take_d (i := 0) (oi := _) (v := ?_) (d := some 10) rfl (by kernel_rfl) (by kernel_rfl) (by kernel_rfl) (fun _ _ _ h => h) (Or.inl ⟨by kernel_rfl, ?_⟩) hHeld rfl ?_
    rotate_left
    · intro w' hSw; (try dsimp only at hSw); go_simp; (try with_reducible rfl)
    simp only [Act.put, List.setIfInBounds_toArray, List.append, List.set_cons_zero, List.set_cons_succ]
    refine take_d (i := 1) (oi := _) (v := ?_) (d := some 11) rfl (by kernel_rfl) (by kernel_rfl) (by kernel_rfl) (fun _ _ _ h => h) (Or.inl ⟨by kernel_rfl, ?_⟩) hHeld rfl ?_
    rotate_left
    · intro w' hSw; (try dsimp only at hSw); go_simp; (try with_reducible rfl)
    simp only [Act.put, List.setIfInBounds_toArray, List.append, List.set_cons_zero, List.set_cons_succ]
    refine wpAnyH_ready (rs := [2]) (by kernel_rfl) (by simp) ?_
    refine AllReadyH.cons rfl (fun K hK => ?_) ?_
    · go_simp
      refine hK.out _ _ ?_ (fun hHeld => ?_)
      · (try dsimp only); (first | done | trivial)
      clear hK K
      (try simp only [Act.put, List.setIfInBounds_toArray, List.append, List.set_cons_zero, List.set_cons_succ])
      refine wpAnyH_ready (rs := [3]) (by kernel_rfl) (by simp) ?_
      refine AllReadyH.cons rfl (fun K hK => ?_) ?_
      · (go_simp; refine (KA).mono ?_; rintro e w2 ⟨b2, rfl, G2, H2, Y2⟩)
        refine hK.out _ _ ?_ (fun hHeld => ?_)
        · (try dsimp only); (first | done | trivial)
        clear hK K
        (try simp only [Act.put, List.setIfInBounds_toArray, List.append, List.set_cons_zero, List.set_cons_succ])
        cases b2 with
        | false =>
          refine take_d (i := 4) (oi := _) (v := ?_) (d := some 14) rfl (by kernel_rfl) (by kernel_rfl) (by kernel_rfl) (fun _ _ _ h => h) (Or.inl ⟨by kernel_rfl, ?_⟩) hHeld rfl ?_
          rotate_left
          · intro w' hSw; (try dsimp only at hSw); go_simp; (try with_reducible rfl)
          simp only [Act.put, List.setIfInBounds_toArray, List.append, List.set_cons_zero, List.set_cons_succ]
          refine take_d (i := 5) (oi := _) (v := ?_) (d := some 15) rfl (by kernel_rfl) (by kernel_rfl) (by kernel_rfl) (fun _ _ _ h => h) (Or.inl ⟨by kernel_rfl, ?_⟩) hHeld rfl ?_
          rotate_left
          · intro w' hSw; (try dsimp only at hSw); go_simp; (try with_reducible rfl)
          simp only [Act.put, List.setIfInBounds_toArray, List.append, List.set_cons_zero, List.set_cons_succ]
          refine take_d (i := 6) (oi := _) (v := undef) (d := some 16) rfl (by kernel_rfl) (by kernel_rfl) (by kernel_rfl) (fun _ _ _ h => h) (Or.inr ⟨by kernel_rfl, rfl⟩) hHeld rfl ?_
          simp only [Act.put, List.setIfInBounds_toArray, List.append, List.set_cons_zero, List.set_cons_succ]
          refine take_d (i := 7) (oi := _) (v := undef) (d := some 17) rfl (by kernel_rfl) (by kernel_rfl) (by kernel_rfl) (fun _ _ _ h => h) (Or.inr ⟨by kernel_rfl, rfl⟩) hHeld rfl ?_
          simp only [Act.put, List.setIfInBounds_toArray, List.append, List.set_cons_zero, List.set_cons_succ]
          refine take_d (i := 8) (oi := _) (v := undef) (d := some 18) rfl (by kernel_rfl) (by kernel_rfl) (by kernel_rfl) (fun _ _ _ h => h) (Or.inr ⟨by kernel_rfl, rfl⟩) hHeld rfl ?_
          simp only [Act.put, List.setIfInBounds_toArray, List.append, List.set_cons_zero, List.set_cons_succ]
          refine take_d (i := 9) (oi := _) (v := undef) (d := some 19) rfl (by kernel_rfl) (by kernel_rfl) (by kernel_rfl) (fun _ _ _ h => h) (Or.inr ⟨by kernel_rfl, rfl⟩) hHeld rfl ?_
          simp only [Act.put, List.setIfInBounds_toArray, List.append, List.set_cons_zero, List.set_cons_succ]
          refine take_d (i := 10) (oi := _) (v := undef) (d := some 20) rfl (by kernel_rfl) (by kernel_rfl) (by kernel_rfl) (fun _ _ _ h => h) (Or.inr ⟨by kernel_rfl, rfl⟩) hHeld rfl ?_
          simp only [Act.put, List.setIfInBounds_toArray, List.append, List.set_cons_zero, List.set_cons_succ]
          refine take_d (i := 11) (oi := _) (v := undef) (d := some 21) rfl (by kernel_rfl) (by kernel_rfl) (by kernel_rfl) (fun _ _ _ h => h) (Or.inr ⟨by kernel_rfl, rfl⟩) hHeld rfl ?_
          simp only [Act.put, List.setIfInBounds_toArray, List.append, List.set_cons_zero, List.set_cons_succ]
          refine take_d (i := 12) (oi := _) (v := undef) (d := some 22) rfl (by kernel_rfl) (by kernel_rfl) (by kernel_rfl) (fun _ _ _ h => h) (Or.inr ⟨by kernel_rfl, rfl⟩) hHeld rfl ?_
          simp only [Act.put, List.setIfInBounds_toArray, List.append, List.set_cons_zero, List.set_cons_succ]
          refine take_d (i := 13) (oi := _) (v := undef) (d := some 23) rfl (by kernel_rfl) (by kernel_rfl) (by kernel_rfl) (fun _ _ _ h => h) (Or.inr ⟨by kernel_rfl, rfl⟩) hHeld rfl ?_
          simp only [Act.put, List.setIfInBounds_toArray, List.append, List.set_cons_zero, List.set_cons_succ]
          refine take_d (i := 14) (oi := _) (v := ?_) (d := some 24) rfl (by kernel_rfl) (by kernel_rfl) (by kernel_rfl) (fun _ _ _ h => h) (Or.inl ⟨by kernel_rfl, ?_⟩) hHeld rfl ?_
          rotate_left
          · intro w' hSw; (try dsimp only at hSw); go_simp; (try with_reducible rfl)
          simp only [Act.put, List.setIfInBounds_toArray, List.append, List.set_cons_zero, List.set_cons_succ]
          refine take_d (i := 15) (oi := _) (v := ?_) (d := some 25) rfl (by kernel_rfl) (by kernel_rfl) (by kernel_rfl) (fun _ _ _ h => h) (Or.inl ⟨by kernel_rfl, ?_⟩) hHeld rfl ?_
          rotate_left
          · intro w' hSw; (try dsimp only at hSw); go_simp; (try with_reducible rfl)
          simp only [Act.put, List.setIfInBounds_toArray, List.append, List.set_cons_zero, List.set_cons_succ]
          refine take_d (i := 16) (oi := _) (v := undef) (d := some 26) rfl (by kernel_rfl) (by kernel_rfl) (by kernel_rfl) (fun _ _ _ h => h) (Or.inr ⟨by kernel_rfl, rfl⟩) hHeld rfl ?_
          simp only [Act.put, List.setIfInBounds_toArray, List.append, List.set_cons_zero, List.set_cons_succ]
          refine take_d (i := 17) (oi := _) (v := undef) (d := some 27) rfl (by kernel_rfl) (by kernel_rfl) (by kernel_rfl) (fun _ _ _ h => h) (Or.inr ⟨by kernel_rfl, rfl⟩) hHeld rfl ?_
          simp only [Act.put, List.setIfInBounds_toArray, List.append, List.set_cons_zero, List.set_cons_succ]
          refine take_d (i := 18) (oi := _) (v := undef) (d := some 28) rfl (by kernel_rfl) (by kernel_rfl) (by kernel_rfl) (fun _ _ _ h => h) (Or.inr ⟨by kernel_rfl, rfl⟩) hHeld rfl ?_
          simp only [Act.put, List.setIfInBounds_toArray, List.append, List.set_cons_zero, List.set_cons_succ]
          refine take_d (i := 19) (oi := _) (v := undef) (d := some 29) rfl (by kernel_rfl) (by kernel_rfl) (by kernel_rfl) (fun _ _ _ h => h) (Or.inr ⟨by kernel_rfl, rfl⟩) hHeld rfl ?_
          simp only [Act.put, List.setIfInBounds_toArray, List.append, List.set_cons_zero, List.set_cons_succ]
          refine take_d (i := 20) (oi := _) (v := undef) (d := some 30) rfl (by kernel_rfl) (by kernel_rfl) (by kernel_rfl) (fun _ _ _ h => h) (Or.inr ⟨by kernel_rfl, rfl⟩) hHeld rfl ?_
          simp only [Act.put, List.setIfInBounds_toArray, List.append, List.set_cons_zero, List.set_cons_succ]
          refine take_d (i := 21) (oi := _) (v := undef) (d := some 31) rfl (by kernel_rfl) (by kernel_rfl) (by kernel_rfl) (fun _ _ _ h => h) (Or.inr ⟨by kernel_rfl, rfl⟩) hHeld rfl ?_
          simp only [Act.put, List.setIfInBounds_toArray, List.append, List.set_cons_zero, List.set_cons_succ]
          refine take_d (i := 22) (oi := _) (v := undef) (d := some 32) rfl (by kernel_rfl) (by kernel_rfl) (by kernel_rfl) (fun _ _ _ h => h) (Or.inr ⟨by kernel_rfl, rfl⟩) hHeld rfl ?_
          simp only [Act.put, List.setIfInBounds_toArray, List.append, List.set_cons_zero, List.set_cons_succ]
          refine take_d (i := 23) (oi := _) (v := undef) (d := some 33) rfl (by kernel_rfl) (by kernel_rfl) (by kernel_rfl) (fun _ _ _ h => h) (Or.inr ⟨by kernel_rfl, rfl⟩) hHeld rfl ?_
          simp only [Act.put, List.setIfInBounds_toArray, List.append, List.set_cons_zero, List.set_cons_succ]
          refine take_d (i := 24) (oi := _) (v := undef) (d := some 34) rfl (by kernel_rfl) (by kernel_rfl) (by kernel_rfl) (fun _ _ _ h => h) (Or.inr ⟨by kernel_rfl, rfl⟩) hHeld rfl ?_
          simp only [Act.put, List.setIfInBounds_toArray, List.append, List.set_cons_zero, List.set_cons_succ]
          refine take_d (i := 25) (oi := _) (v := undef) (d := some 35) rfl (by kernel_rfl) (by kernel_rfl) (by kernel_rfl) (fun _ _ _ h => h) (Or.inr ⟨by kernel_rfl, rfl⟩) hHeld rfl ?_
          simp only [Act.put, List.setIfInBounds_toArray, List.append, List.set_cons_zero, List.set_cons_succ]
          refine take_d (i := 26) (oi := _) (v := undef) (d := some 36) rfl (by kernel_rfl) (by kernel_rfl) (by kernel_rfl) (fun _ _ _ h => h) (Or.inr ⟨by kernel_rfl, rfl⟩) hHeld rfl ?_
          simp only [Act.put, List.setIfInBounds_toArray, List.append, List.set_cons_zero, List.set_cons_succ]
          refine take_d (i := 27) (oi := _) (v := undef) (d := some 37) rfl (by kernel_rfl) (by kernel_rfl) (by kernel_rfl) (fun _ _ _ h => h) (Or.inr ⟨by kernel_rfl, rfl⟩) hHeld rfl ?_
          simp only [Act.put, List.setIfInBounds_toArray, List.append, List.set_cons_zero, List.set_cons_succ]
          refine take_d (i := 28) (oi := _) (v := ?_) (d := some 38) rfl (by kernel_rfl) (by kernel_rfl) (by kernel_rfl) (fun _ _ _ h => h) (Or.inl ⟨by kernel_rfl, ?_⟩) hHeld rfl ?_
          rotate_left
          · intro w' hSw; (try dsimp only at hSw); go_simp; (try with_reducible rfl)
          simp only [Act.put, List.setIfInBounds_toArray, List.append, List.set_cons_zero, List.set_cons_succ]
          refine take_d (i := 29) (oi := _) (v := ?_) (d := some 39) rfl (by kernel_rfl) (by kernel_rfl) (by kernel_rfl) (fun _ _ _ h => h) (Or.inl ⟨by kernel_rfl, ?_⟩) hHeld rfl ?_
          rotate_left
          · intro w' hSw; (try dsimp only at hSw); go_simp; (try with_reducible rfl)
          simp only [Act.put, List.setIfInBounds_toArray, List.append, List.set_cons_zero, List.set_cons_succ]
          refine take_d (i := 30) (oi := _) (v := undef) (d := some 40) rfl (by kernel_rfl) (by kernel_rfl) (by kernel_rfl) (fun _ _ _ h => h) (Or.inr ⟨by kernel_rfl, rfl⟩) hHeld rfl ?_
          simp only [Act.put, List.setIfInBounds_toArray, List.append, List.set_cons_zero, List.set_cons_succ]
          refine take_d (i := 31) (oi := _) (v := undef) (d := some 41) rfl (by kernel_rfl) (by kernel_rfl) (by kernel_rfl) (fun _ _ _ h => h) (Or.inr ⟨by kernel_rfl, rfl⟩) hHeld rfl ?_
          simp only [Act.put, List.setIfInBounds_toArray, List.append, List.set_cons_zero, List.set_cons_succ]
          refine take_d (i := 32) (oi := _) (v := undef) (d := some 42) rfl (by kernel_rfl) (by kernel_rfl) (by kernel_rfl) (fun _ _ _ h => h) (Or.inr ⟨by kernel_rfl, rfl⟩) hHeld rfl ?_
          simp only [Act.put, List.setIfInBounds_toArray, List.append, List.set_cons_zero, List.set_cons_succ]
          refine take_d (i := 33) (oi := _) (v := undef) (d := some 43) rfl (by kernel_rfl) (by kernel_rfl) (by kernel_rfl) (fun _ _ _ h => h) (Or.inr ⟨by kernel_rfl, rfl⟩) hHeld rfl ?_
          simp only [Act.put, List.setIfInBounds_toArray, List.append, List.set_cons_zero, List.set_cons_succ]
          refine take_d (i := 34) (oi := _) (v := undef) (d := some 44) rfl (by kernel_rfl) (by kernel_rfl) (by kernel_rfl) (fun _ _ _ h => h) (Or.inr ⟨by kernel_rfl, rfl⟩) hHeld rfl ?_
          simp only [Act.put, List.setIfInBounds_toArray, List.append, List.set_cons_zero, List.set_cons_succ]
          refine take_d (i := 35) (oi := _) (v := ?_) (d := some 45) rfl (by kernel_rfl) (by kernel_rfl) (by kernel_rfl) (fun _ _ _ h => h) (Or.inl ⟨by kernel_rfl, ?_⟩) hHeld rfl ?_
          rotate_left
          · intro w' hSw; (try dsimp only at hSw); go_simp; (try with_reducible rfl)
          simp only [Act.put, List.setIfInBounds_toArray, List.append, List.set_cons_zero, List.set_cons_succ]
          refine take_d (i := 36) (oi := _) (v := ?_) (d := some 46) rfl (by kernel_rfl) (by kernel_rfl) (by kernel_rfl) (fun _ _ _ h => h) (Or.inl ⟨by kernel_rfl, ?_⟩) hHeld rfl ?_
          rotate_left
          · intro w' hSw; (try dsimp only at hSw); go_simp; (try with_reducible rfl)
          simp only [Act.put, List.setIfInBounds_toArray, List.append, List.set_cons_zero, List.set_cons_succ]
          refine take_d (i := 37) (oi := _) (v := undef) (d := some 47) rfl (by kernel_rfl) (by kernel_rfl) (by kernel_rfl) (fun _ _ _ h => h) (Or.inr ⟨by kernel_rfl, rfl⟩) hHeld rfl ?_
          simp only [Act.put, List.setIfInBounds_toArray, List.append, List.set_cons_zero, List.set_cons_succ]
          refine take_d (i := 38) (oi := _) (v := undef) (d := some 48) rfl (by kernel_rfl) (by kernel_rfl) (by kernel_rfl) (fun _ _ _ h => h) (Or.inr ⟨by kernel_rfl, rfl⟩) hHeld rfl ?_
          simp only [Act.put, List.setIfInBounds_toArray, List.append, List.set_cons_zero, List.set_cons_succ]
          refine take_d (i := 39) (oi := _) (v := undef) (d := some 49) rfl (by kernel_rfl) (by kernel_rfl) (by kernel_rfl) (fun _ _ _ h => h) (Or.inr ⟨by kernel_rfl, rfl⟩) hHeld rfl ?_
          simp only [Act.put, List.setIfInBounds_toArray, List.append, List.set_cons_zero, List.set_cons_succ]
          refine take_d (i := 40) (oi := _) (v := undef) (d := some 50) rfl (by kernel_rfl) (by kernel_rfl) (by kernel_rfl) (fun _ _ _ h => h) (Or.inr ⟨by kernel_rfl, rfl⟩) hHeld rfl ?_
          simp only [Act.put, List.setIfInBounds_toArray, List.append, List.set_cons_zero, List.set_cons_succ]
          refine take_d (i := 41) (oi := _) (v := ?_) (d := some 51) rfl (by kernel_rfl) (by kernel_rfl) (by kernel_rfl) (fun _ _ _ h => h) (Or.inl ⟨by kernel_rfl, ?_⟩) hHeld rfl ?_
          rotate_left
          · intro w' hSw; (try dsimp only at hSw); go_simp; (try with_reducible rfl)
          simp only [Act.put, List.setIfInBounds_toArray, List.append, List.set_cons_zero, List.set_cons_succ]
          refine take_d (i := 42) (oi := _) (v := ?_) (d := some 52) rfl (by kernel_rfl) (by kernel_rfl) (by kernel_rfl) (fun _ _ _ h => h) (Or.inl ⟨by kernel_rfl, ?_⟩) hHeld rfl ?_
          rotate_left
          · intro w' hSw; (try dsimp only at hSw); go_simp; (try with_reducible rfl)
          simp only [Act.put, List.setIfInBounds_toArray, List.append, List.set_cons_zero, List.set_cons_succ]
          refine take_d (i := 43) (oi := _) (v := undef) (d := some 53) rfl (by kernel_rfl) (by kernel_rfl) (by kernel_rfl) (fun _ _ _ h => h) (Or.inr ⟨by kernel_rfl, rfl⟩) hHeld rfl ?_
          simp only [Act.put, List.setIfInBounds_toArray, List.append, List.set_cons_zero, List.set_cons_succ]
          refine take_d (i := 44) (oi := _) (v := undef) (d := some 54) rfl (by kernel_rfl) (by kernel_rfl) (by kernel_rfl) (fun _ _ _ h => h) (Or.inr ⟨by kernel_rfl, rfl⟩) hHeld rfl ?_
          simp only [Act.put, List.setIfInBounds_toArray, List.append, List.set_cons_zero, List.set_cons_succ]
          refine take_d (i := 45) (oi := _) (v := ?_) (d := some 55) rfl (by kernel_rfl) (by kernel_rfl) (by kernel_rfl) (fun _ _ _ h => h) (Or.inl ⟨by kernel_rfl, ?_⟩) hHeld rfl ?_
          rotate_left
          · intro w' hSw; (try dsimp only at hSw); go_simp; (try with_reducible rfl)
          simp only [Act.put, List.setIfInBounds_toArray, List.append, List.set_cons_zero, List.set_cons_succ]
          refine take_d (i := 46) (oi := _) (v := ?_) (d := some 56) rfl (by kernel_rfl) (by kernel_rfl) (by kernel_rfl) (fun _ _ _ h => h) (Or.inl ⟨by kernel_rfl, ?_⟩) hHeld rfl ?_
          rotate_left
          · intro w' hSw; (try dsimp only at hSw); go_simp; (try with_reducible rfl)
          simp only [Act.put, List.setIfInBounds_toArray, List.append, List.set_cons_zero, List.set_cons_succ]
          refine take_d (i := 47) (oi := _) (v := undef) (d := some 57) rfl (by kernel_rfl) (by kernel_rfl) (by kernel_rfl) (fun _ _ _ h => h) (Or.inr ⟨by kernel_rfl, rfl⟩) hHeld rfl ?_
          simp only [Act.put, List.setIfInBounds_toArray, List.append, List.set_cons_zero, List.set_cons_succ]
          refine take_d (i := 48) (oi := _) (v := undef) (d := some 58) rfl (by kernel_rfl) (by kernel_rfl) (by kernel_rfl) (fun _ _ _ h => h) (Or.inr ⟨by kernel_rfl, rfl⟩) hHeld rfl ?_
          simp only [Act.put, List.setIfInBounds_toArray, List.append, List.set_cons_zero, List.set_cons_succ]
          refine take_d (i := 49) (oi := _) (v := undef) (d := some 59) rfl (by kernel_rfl) (by kernel_rfl) (by kernel_rfl) (fun _ _ _ h => h) (Or.inr ⟨by kernel_rfl, rfl⟩) hHeld rfl ?_
          simp only [Act.put, List.setIfInBounds_toArray, List.append, List.set_cons_zero, List.set_cons_succ]
          refine take_d (i := 50) (oi := _) (v := ?_) (d := some 60) rfl (by kernel_rfl) (by kernel_rfl) (by kernel_rfl) (fun _ _ _ h => h) (Or.inl ⟨by kernel_rfl, ?_⟩) hHeld rfl ?_
          rotate_left
          · intro w' hSw; (try dsimp only at hSw); go_simp; (try with_reducible rfl)
          simp only [Act.put, List.setIfInBounds_toArray, List.append, List.set_cons_zero, List.set_cons_succ]
          refine wpAnyH_done (by kernel_rfl) ?_ _
          refine NoPanic.normal ?_
          go_wp2
          go_meet
          case rel => exact ⟨true, by (first | rfl | kernel_rfl), fun _ => ⟨G2.out, HNO1.out (H2.out (by simp))⟩, fun h => by cases h⟩
        | true =>
          obtain ⟨s, k, l1, M2, N2⟩ := Y2.out (by simp)
          refine take_d (i := 4) (oi := _) (v := ?_) (d := some 14) rfl (by kernel_rfl) (by kernel_rfl) (by kernel_rfl) (fun _ _ _ h => h) (Or.inl ⟨by kernel_rfl, ?_⟩) hHeld rfl ?_
          rotate_left
          · intro w' hSw; (try dsimp only at hSw); go_simp; (try with_reducible rfl)
          simp only [Act.put, List.setIfInBounds_toArray, List.append, List.set_cons_zero, List.set_cons_succ]
          refine take_d (i := 5) (oi := _) (v := ?_) (d := some 15) rfl (by kernel_rfl) (by kernel_rfl) (by kernel_rfl) (fun _ _ _ h => h) (Or.inl ⟨by kernel_rfl, ?_⟩) hHeld rfl ?_
          rotate_left
          · intro w' hSw; (try dsimp only at hSw); go_simp; (try with_reducible rfl)
          simp only [Act.put, List.setIfInBounds_toArray, List.append, List.set_cons_zero, List.set_cons_succ]
          refine take_d (i := 6) (oi := _) (v := ?_) (d := some 16) rfl (by kernel_rfl) (by kernel_rfl) (by kernel_rfl) (fun _ _ _ h => h) (Or.inl ⟨by kernel_rfl, ?_⟩) hHeld rfl ?_
          rotate_left
          · intro w' hSw; (try dsimp only at hSw); go_simp; (try with_reducible rfl)
          simp only [Act.put, List.setIfInBounds_toArray, List.append, List.set_cons_zero, List.set_cons_succ]
          refine take_d (i := 7) (oi := _) (v := ?_) (d := some 17) rfl (by kernel_rfl) (by kernel_rfl) (by kernel_rfl) (fun _ _ _ h => h) (Or.inl ⟨by kernel_rfl, ?_⟩) hHeld rfl ?_
          rotate_left
          · intro w' hSw; (try dsimp only at hSw); go_simp; (try with_reducible rfl)
          simp only [Act.put, List.setIfInBounds_toArray, List.append, List.set_cons_zero, List.set_cons_succ]
          refine take_d (i := 8) (oi := _) (v := ?_) (d := some 18) rfl (by kernel_rfl) (by kernel_rfl) (by kernel_rfl) (fun _ _ _ h => h) (Or.inl ⟨by kernel_rfl, ?_⟩) hHeld rfl ?_
          rotate_left
          · intro w' hSw; (try dsimp only at hSw); go_simp; (try with_reducible rfl)
          simp only [Act.put, List.setIfInBounds_toArray, List.append, List.set_cons_zero, List.set_cons_succ]
          refine take_d (i := 9) (oi := _) (v := ?_) (d := some 19) rfl (by kernel_rfl) (by kernel_rfl) (by kernel_rfl) (fun _ _ _ h => h) (Or.inl ⟨by kernel_rfl, ?_⟩) hHeld rfl ?_
          rotate_left
          · intro w' hSw; (try dsimp only at hSw); go_simp; (try with_reducible rfl)
          simp only [Act.put, List.setIfInBounds_toArray, List.append, List.set_cons_zero, List.set_cons_succ]
          refine take_d (i := 10) (oi := _) (v := ?_) (d := some 20) rfl (by kernel_rfl) (by kernel_rfl) (by kernel_rfl) (fun _ _ _ h => h) (Or.inl ⟨by kernel_rfl, ?_⟩) hHeld rfl ?_
          rotate_left
          · intro w' hSw; (try dsimp only at hSw); go_simp; (try with_reducible rfl)
          simp only [Act.put, List.setIfInBounds_toArray, List.append, List.set_cons_zero, List.set_cons_succ]
          refine wpAnyH_ready (rs := [11]) (by kernel_rfl) (by simp) ?_
          refine AllReadyH.cons rfl (fun K hK => ?_) ?_
          · go_simp
            refine hK.out _ _ ?_ (fun hHeld => ?_)
            · (try dsimp only); (first | done | trivial)
            clear hK K
            (try simp only [Act.put, List.setIfInBounds_toArray, List.append, List.set_cons_zero, List.set_cons_succ])
            refine wpAnyH_ready (rs := [12]) (by kernel_rfl) (by simp) ?_
            refine AllReadyH.cons rfl (fun K hK => ?_) ?_
            · (go_simp; refine (KB.out s k l1 w2 N2).mono ?_; rintro e w3 ⟨b3, rfl, G3, H3, Y3⟩)
              refine hK.out _ _ ?_ (fun hHeld => ?_)
              · (try dsimp only); (first | done | trivial)
              clear hK K
              (try simp only [Act.put, List.setIfInBounds_toArray, List.append, List.set_cons_zero, List.set_cons_succ])
              cases b3 with
              | false =>
                refine take_d (i := 13) (oi := _) (v := ?_) (d := some 23) rfl (by kernel_rfl) (by kernel_rfl) (by kernel_rfl) (fun _ _ _ h => h) (Or.inl ⟨by kernel_rfl, ?_⟩) hHeld rfl ?_
                rotate_left
                · intro w' hSw; (try dsimp only at hSw); go_simp; (try with_reducible rfl)
                simp only [Act.put, List.setIfInBounds_toArray, List.append, List.set_cons_zero, List.set_cons_succ]
                refine take_d (i := 14) (oi := _) (v := ?_) (d := some 24) rfl (by kernel_rfl) (by kernel_rfl) (by kernel_rfl) (fun _ _ _ h => h) (Or.inl ⟨by kernel_rfl, ?_⟩) hHeld rfl ?_
                rotate_left
                · intro w' hSw; (try dsimp only at hSw); go_simp; (try with_reducible rfl)
                simp only [Act.put, List.setIfInBounds_toArray, List.append, List.set_cons_zero, List.set_cons_succ]
                refine take_d (i := 15) (oi := _) (v := ?_) (d := some 25) rfl (by kernel_rfl) (by kernel_rfl) (by kernel_rfl) (fun _ _ _ h => h) (Or.inl ⟨by kernel_rfl, ?_⟩) hHeld rfl ?_
                rotate_left
                · intro w' hSw; (try dsimp only at hSw); go_simp; (try with_reducible rfl)
                simp only [Act.put, List.setIfInBounds_toArray, List.append, List.set_cons_zero, List.set_cons_succ]
                refine take_d (i := 16) (oi := _) (v := undef) (d := some 26) rfl (by kernel_rfl) (by kernel_rfl) (by kernel_rfl) (fun _ _ _ h => h) (Or.inr ⟨by kernel_rfl, rfl⟩) hHeld rfl ?_
                simp only [Act.put, List.setIfInBounds_toArray, List.append, List.set_cons_zero, List.set_cons_succ]
                refine take_d (i := 17) (oi := _) (v := undef) (d := some 27) rfl (by kernel_rfl) (by kernel_rfl) (by kernel_rfl) (fun _ _ _ h => h) (Or.inr ⟨by kernel_rfl, rfl⟩) hHeld rfl ?_
                simp only [Act.put, List.setIfInBounds_toArray, List.append, List.set_cons_zero, List.set_cons_succ]
                refine take_d (i := 18) (oi := _) (v := undef) (d := some 28) rfl (by kernel_rfl) (by kernel_rfl) (by kernel_rfl) (fun _ _ _ h => h) (Or.inr ⟨by kernel_rfl, rfl⟩) hHeld rfl ?_
                simp only [Act.put, List.setIfInBounds_toArray, List.append, List.set_cons_zero, List.set_cons_succ]
                refine take_d (i := 19) (oi := _) (v := undef) (d := some 29) rfl (by kernel_rfl) (by kernel_rfl) (by kernel_rfl) (fun _ _ _ h => h) (Or.inr ⟨by kernel_rfl, rfl⟩) hHeld rfl ?_
                simp only [Act.put, List.setIfInBounds_toArray, List.append, List.set_cons_zero, List.set_cons_succ]
                refine take_d (i := 20) (oi := _) (v := undef) (d := some 30) rfl (by kernel_rfl) (by kernel_rfl) (by kernel_rfl) (fun _ _ _ h => h) (Or.inr ⟨by kernel_rfl, rfl⟩) hHeld rfl ?_
                simp only [Act.put, List.setIfInBounds_toArray, List.append, List.set_cons_zero, List.set_cons_succ]
                refine take_d (i := 21) (oi := _) (v := undef) (d := some 31) rfl (by kernel_rfl) (by kernel_rfl) (by kernel_rfl) (fun _ _ _ h => h) (Or.inr ⟨by kernel_rfl, rfl⟩) hHeld rfl ?_
                simp only [Act.put, List.setIfInBounds_toArray, List.append, List.set_cons_zero, List.set_cons_succ]
                refine take_d (i := 22) (oi := _) (v := undef) (d := some 32) rfl (by kernel_rfl) (by kernel_rfl) (by kernel_rfl) (fun _ _ _ h => h) (Or.inr ⟨by kernel_rfl, rfl⟩) hHeld rfl ?_
                simp only [Act.put, List.setIfInBounds_toArray, List.append, List.set_cons_zero, List.set_cons_succ]
                refine take_d (i := 23) (oi := _) (v := undef) (d := some 33) rfl (by kernel_rfl) (by kernel_rfl) (by kernel_rfl) (fun _ _ _ h => h) (Or.inr ⟨by kernel_rfl, rfl⟩) hHeld rfl ?_
                simp only [Act.put, List.setIfInBounds_toArray, List.append, List.set_cons_zero, List.set_cons_succ]
                refine take_d (i := 24) (oi := _) (v := undef) (d := some 34) rfl (by kernel_rfl) (by kernel_rfl) (by kernel_rfl) (fun _ _ _ h => h) (Or.inr ⟨by kernel_rfl, rfl⟩) hHeld rfl ?_
                simp only [Act.put, List.setIfInBounds_toArray, List.append, List.set_cons_zero, List.set_cons_succ]
                refine take_d (i := 25) (oi := _) (v := undef) (d := some 35) rfl (by kernel_rfl) (by kernel_rfl) (by kernel_rfl) (fun _ _ _ h => h) (Or.inr ⟨by kernel_rfl, rfl⟩) hHeld rfl ?_
                simp only [Act.put, List.setIfInBounds_toArray, List.append, List.set_cons_zero, List.set_cons_succ]
                refine take_d (i := 26) (oi := _) (v := undef) (d := some 36) rfl (by kernel_rfl) (by kernel_rfl) (by kernel_rfl) (fun _ _ _ h => h) (Or.inr ⟨by kernel_rfl, rfl⟩) hHeld rfl ?_
                simp only [Act.put, List.setIfInBounds_toArray, List.append, List.set_cons_zero, List.set_cons_succ]
                refine take_d (i := 27) (oi := _) (v := undef) (d := some 37) rfl (by kernel_rfl) (by kernel_rfl) (by kernel_rfl) (fun _ _ _ h => h) (Or.inr ⟨by kernel_rfl, rfl⟩) hHeld rfl ?_
                simp only [Act.put, List.setIfInBounds_toArray, List.append, List.set_cons_zero, List.set_cons_succ]
                refine take_d (i := 28) (oi := _) (v := ?_) (d := some 38) rfl (by kernel_rfl) (by kernel_rfl) (by kernel_rfl) (fun _ _ _ h => h) (Or.inl ⟨by kernel_rfl, ?_⟩) hHeld rfl ?_
                rotate_left
                · intro w' hSw; (try dsimp only at hSw); go_simp; (try with_reducible rfl)
                simp only [Act.put, List.setIfInBounds_toArray, List.append, List.set_cons_zero, List.set_cons_succ]
                refine take_d (i := 29) (oi := _) (v := ?_) (d := some 39) rfl (by kernel_rfl) (by kernel_rfl) (by kernel_rfl) (fun _ _ _ h => h) (Or.inl ⟨by kernel_rfl, ?_⟩) hHeld rfl ?_
                rotate_left
                · intro w' hSw; (try dsimp only at hSw); go_simp; (try with_reducible rfl)
                simp only [Act.put, List.setIfInBounds_toArray, List.append, List.set_cons_zero, List.set_cons_succ]
                refine take_d (i := 30) (oi := _) (v := undef) (d := some 40) rfl (by kernel_rfl) (by kernel_rfl) (by kernel_rfl) (fun _ _ _ h => h) (Or.inr ⟨by kernel_rfl, rfl⟩) hHeld rfl ?_
                simp only [Act.put, List.setIfInBounds_toArray, List.append, List.set_cons_zero, List.set_cons_succ]
                refine take_d (i := 31) (oi := _) (v := undef) (d := some 41) rfl (by kernel_rfl) (by kernel_rfl) (by kernel_rfl) (fun _ _ _ h => h) (Or.inr ⟨by kernel_rfl, rfl⟩) hHeld rfl ?_
                simp only [Act.put, List.setIfInBounds_toArray, List.append, List.set_cons_zero, List.set_cons_succ]
                refine take_d (i := 32) (oi := _) (v := undef) (d := some 42) rfl (by kernel_rfl) (by kernel_rfl) (by kernel_rfl) (fun _ _ _ h => h) (Or.inr ⟨by kernel_rfl, rfl⟩) hHeld rfl ?_
                simp only [Act.put, List.setIfInBounds_toArray, List.append, List.set_cons_zero, List.set_cons_succ]
                refine take_d (i := 33) (oi := _) (v := undef) (d := some 43) rfl (by kernel_rfl) (by kernel_rfl) (by kernel_rfl) (fun _ _ _ h => h) (Or.inr ⟨by kernel_rfl, rfl⟩) hHeld rfl ?_
                simp only [Act.put, List.setIfInBounds_toArray, List.append, List.set_cons_zero, List.set_cons_succ]
                refine take_d (i := 34) (oi := _) (v := undef) (d := some 44) rfl (by kernel_rfl) (by kernel_rfl) (by kernel_rfl) (fun _ _ _ h => h) (Or.inr ⟨by kernel_rfl, rfl⟩) hHeld rfl ?_
                simp only [Act.put, List.setIfInBounds_toArray, List.append, List.set_cons_zero, List.set_cons_succ]
                refine take_d (i := 35) (oi := _) (v := ?_) (d := some 45) rfl (by kernel_rfl) (by kernel_rfl) (by kernel_rfl) (fun _ _ _ h => h) (Or.inl ⟨by kernel_rfl, ?_⟩) hHeld rfl ?_
                rotate_left
                · intro w' hSw; (try dsimp only at hSw); go_simp; (try with_reducible rfl)
                simp only [Act.put, List.setIfInBounds_toArray, List.append, List.set_cons_zero, List.set_cons_succ]
                refine take_d (i := 36) (oi := _) (v := ?_) (d := some 46) rfl (by kernel_rfl) (by kernel_rfl) (by kernel_rfl) (fun _ _ _ h => h) (Or.inl ⟨by kernel_rfl, ?_⟩) hHeld rfl ?_
                rotate_left
                · intro w' hSw; (try dsimp only at hSw); go_simp; (try with_reducible rfl)
                simp only [Act.put, List.setIfInBounds_toArray, List.append, List.set_cons_zero, List.set_cons_succ]
                refine take_d (i := 37) (oi := _) (v := undef) (d := some 47) rfl (by kernel_rfl) (by kernel_rfl) (by kernel_rfl) (fun _ _ _ h => h) (Or.inr ⟨by kernel_rfl, rfl⟩) hHeld rfl ?_
                simp only [Act.put, List.setIfInBounds_toArray, List.append, List.set_cons_zero, List.set_cons_succ]
                refine take_d (i := 38) (oi := _) (v := undef) (d := some 48) rfl (by kernel_rfl) (by kernel_rfl) (by kernel_rfl) (fun _ _ _ h => h) (Or.inr ⟨by kernel_rfl, rfl⟩) hHeld rfl ?_
                simp only [Act.put, List.setIfInBounds_toArray, List.append, List.set_cons_zero, List.set_cons_succ]
                refine take_d (i := 39) (oi := _) (v := undef) (d := some 49) rfl (by kernel_rfl) (by kernel_rfl) (by kernel_rfl) (fun _ _ _ h => h) (Or.inr ⟨by kernel_rfl, rfl⟩) hHeld rfl ?_
                simp only [Act.put, List.setIfInBounds_toArray, List.append, List.set_cons_zero, List.set_cons_succ]
                refine take_d (i := 40) (oi := _) (v := undef) (d := some 50) rfl (by kernel_rfl) (by kernel_rfl) (by kernel_rfl) (fun _ _ _ h => h) (Or.inr ⟨by kernel_rfl, rfl⟩) hHeld rfl ?_
                simp only [Act.put, List.setIfInBounds_toArray, List.append, List.set_cons_zero, List.set_cons_succ]
                refine take_d (i := 41) (oi := _) (v := ?_) (d := some 51) rfl (by kernel_rfl) (by kernel_rfl) (by kernel_rfl) (fun _ _ _ h => h) (Or.inl ⟨by kernel_rfl, ?_⟩) hHeld rfl ?_
                rotate_left
                · intro w' hSw; (try dsimp only at hSw); go_simp; (try with_reducible rfl)
                simp only [Act.put, List.setIfInBounds_toArray, List.append, List.set_cons_zero, List.set_cons_succ]
                refine take_d (i := 42) (oi := _) (v := ?_) (d := some 52) rfl (by kernel_rfl) (by kernel_rfl) (by kernel_rfl) (fun _ _ _ h => h) (Or.inl ⟨by kernel_rfl, ?_⟩) hHeld rfl ?_
                rotate_left
                · intro w' hSw; (try dsimp only at hSw); go_simp; (try with_reducible rfl)
                simp only [Act.put, List.setIfInBounds_toArray, List.append, List.set_cons_zero, List.set_cons_succ]
                refine take_d (i := 43) (oi := _) (v := undef) (d := some 53) rfl (by kernel_rfl) (by kernel_rfl) (by kernel_rfl) (fun _ _ _ h => h) (Or.inr ⟨by kernel_rfl, rfl⟩) hHeld rfl ?_
                simp only [Act.put, List.setIfInBounds_toArray, List.append, List.set_cons_zero, List.set_cons_succ]
                refine take_d (i := 44) (oi := _) (v := undef) (d := some 54) rfl (by kernel_rfl) (by kernel_rfl) (by kernel_rfl) (fun _ _ _ h => h) (Or.inr ⟨by kernel_rfl, rfl⟩) hHeld rfl ?_
                simp only [Act.put, List.setIfInBounds_toArray, List.append, List.set_cons_zero, List.set_cons_succ]
                refine take_d (i := 45) (oi := _) (v := ?_) (d := some 55) rfl (by kernel_rfl) (by kernel_rfl) (by kernel_rfl) (fun _ _ _ h => h) (Or.inl ⟨by kernel_rfl, ?_⟩) hHeld rfl ?_
                rotate_left
                · intro w' hSw; (try dsimp only at hSw); go_simp; (try with_reducible rfl)
                simp only [Act.put, List.setIfInBounds_toArray, List.append, List.set_cons_zero, List.set_cons_succ]
                refine take_d (i := 46) (oi := _) (v := ?_) (d := some 56) rfl (by kernel_rfl) (by kernel_rfl) (by kernel_rfl) (fun _ _ _ h => h) (Or.inl ⟨by kernel_rfl, ?_⟩) hHeld rfl ?_
                rotate_left
                · intro w' hSw; (try dsimp only at hSw); go_simp; (try with_reducible rfl)
                simp only [Act.put, List.setIfInBounds_toArray, List.append, List.set_cons_zero, List.set_cons_succ]
                refine take_d (i := 47) (oi := _) (v := undef) (d := some 57) rfl (by kernel_rfl) (by kernel_rfl) (by kernel_rfl) (fun _ _ _ h => h) (Or.inr ⟨by kernel_rfl, rfl⟩) hHeld rfl ?_
                simp only [Act.put, List.setIfInBounds_toArray, List.append, List.set_cons_zero, List.set_cons_succ]
                refine take_d (i := 48) (oi := _) (v := undef) (d := some 58) rfl (by kernel_rfl) (by kernel_rfl) (by kernel_rfl) (fun _ _ _ h => h) (Or.inr ⟨by kernel_rfl, rfl⟩) hHeld rfl ?_
                simp only [Act.put, List.setIfInBounds_toArray, List.append, List.set_cons_zero, List.set_cons_succ]
                refine take_d (i := 49) (oi := _) (v := undef) (d := some 59) rfl (by kernel_rfl) (by kernel_rfl) (by kernel_rfl) (fun _ _ _ h => h) (Or.inr ⟨by kernel_rfl, rfl⟩) hHeld rfl ?_
                simp only [Act.put, List.setIfInBounds_toArray, List.append, List.set_cons_zero, List.set_cons_succ]
                refine take_d (i := 50) (oi := _) (v := ?_) (d := some 60) rfl (by kernel_rfl) (by kernel_rfl) (by kernel_rfl) (fun _ _ _ h => h) (Or.inl ⟨by kernel_rfl, ?_⟩) hHeld rfl ?_
                rotate_left
                · intro w' hSw; (try dsimp only at hSw); go_simp; (try with_reducible rfl)
                simp only [Act.put, List.setIfInBounds_toArray, List.append, List.set_cons_zero, List.set_cons_succ]
                refine wpAnyH_done (by kernel_rfl) ?_ _
                refine NoPanic.normal ?_
                go_wp2
                go_meet
                case rel => exact ⟨true, by (first | rfl | kernel_rfl), fun _ => ⟨G3.out, HNO2.out s k l1 M2 (H3.out (by simp))⟩, fun h => by cases h⟩
              | true =>
                obtain ⟨nm, ru, l2, M3, N3⟩ := Y3.out (by simp)
                refine take_d (i := 13) (oi := _) (v := ?_) (d := some 23) rfl (by kernel_rfl) (by kernel_rfl) (by kernel_rfl) (fun _ _ _ h => h) (Or.inl ⟨by kernel_rfl, ?_⟩) hHeld rfl ?_
                rotate_left
                · intro w' hSw; (try dsimp only at hSw); go_simp; (try with_reducible rfl)
                simp only [Act.put, List.setIfInBounds_toArray, List.append, List.set_cons_zero, List.set_cons_succ]
                refine take_d (i := 14) (oi := _) (v := ?_) (d := some 24) rfl (by kernel_rfl) (by kernel_rfl) (by kernel_rfl) (fun _ _ _ h => h) (Or.inl ⟨by kernel_rfl, ?_⟩) hHeld rfl ?_
                rotate_left
                · intro w' hSw; (try dsimp only at hSw); go_simp; (try with_reducible rfl)
                simp only [Act.put, List.setIfInBounds_toArray, List.append, List.set_cons_zero, List.set_cons_succ]
                refine take_d (i := 15) (oi := _) (v := ?_) (d := some 25) rfl (by kernel_rfl) (by kernel_rfl) (by kernel_rfl) (fun _ _ _ h => h) (Or.inl ⟨by kernel_rfl, ?_⟩) hHeld rfl ?_
                rotate_left
                · intro w' hSw; (try dsimp only at hSw); go_simp; (try with_reducible rfl)
                simp only [Act.put, List.setIfInBounds_toArray, List.append, List.set_cons_zero, List.set_cons_succ]
                refine take_d (i := 16) (oi := _) (v := ?_) (d := some 26) rfl (by kernel_rfl) (by kernel_rfl) (by kernel_rfl) (fun _ _ _ h => h) (Or.inl ⟨by kernel_rfl, ?_⟩) hHeld rfl ?_
                rotate_left
                · intro w' hSw; (try dsimp only at hSw); go_simp; (try with_reducible rfl)
                simp only [Act.put, List.setIfInBounds_toArray, List.append, List.set_cons_zero, List.set_cons_succ]
                refine take_d (i := 17) (oi := _) (v := ?_) (d := some 27) rfl (by kernel_rfl) (by kernel_rfl) (by kernel_rfl) (fun _ _ _ h => h) (Or.inl ⟨by kernel_rfl, ?_⟩) hHeld rfl ?_
                rotate_left
                · intro w' hSw; (try dsimp only at hSw); go_simp; (try with_reducible rfl)
                simp only [Act.put, List.setIfInBounds_toArray, List.append, List.set_cons_zero, List.set_cons_succ]
                refine take_d (i := 18) (oi := _) (v := ?_) (d := some 28) rfl (by kernel_rfl) (by kernel_rfl) (by kernel_rfl) (fun _ _ _ h => h) (Or.inl ⟨by kernel_rfl, ?_⟩) hHeld rfl ?_
                rotate_left
                · intro w' hSw; (try dsimp only at hSw); go_simp; (try with_reducible rfl)
                simp only [Act.put, List.setIfInBounds_toArray, List.append, List.set_cons_zero, List.set_cons_succ]
                refine take_d (i := 19) (oi := _) (v := ?_) (d := some 29) rfl (by kernel_rfl) (by kernel_rfl) (by kernel_rfl) (fun _ _ _ h => h) (Or.inl ⟨by kernel_rfl, ?_⟩) hHeld rfl ?_
                rotate_left
                · intro w' hSw; (try dsimp only at hSw); go_simp; (try with_reducible rfl)
                simp only [Act.put, List.setIfInBounds_toArray, List.append, List.set_cons_zero, List.set_cons_succ]
                refine take_d (i := 20) (oi := _) (v := ?_) (d := some 30) rfl (by kernel_rfl) (by kernel_rfl) (by kernel_rfl) (fun _ _ _ h => h) (Or.inl ⟨by kernel_rfl, ?_⟩) hHeld rfl ?_
                rotate_left
                · intro w' hSw; (try dsimp only at hSw); go_simp; (try with_reducible rfl)
                simp only [Act.put, List.setIfInBounds_toArray, List.append, List.set_cons_zero, List.set_cons_succ]
                refine take_d (i := 21) (oi := _) (v := ?_) (d := some 31) rfl (by kernel_rfl) (by kernel_rfl) (by kernel_rfl) (fun _ _ _ h => h) (Or.inl ⟨by kernel_rfl, ?_⟩) hHeld rfl ?_
                rotate_left
                · intro w' hSw; (try dsimp only at hSw); go_simp; (try with_reducible rfl)
                simp only [Act.put, List.setIfInBounds_toArray, List.append, List.set_cons_zero, List.set_cons_succ]
                refine take_d (i := 22) (oi := _) (v := ?_) (d := some 32) rfl (by kernel_rfl) (by kernel_rfl) (by kernel_rfl) (fun _ _ _ h => h) (Or.inl ⟨by kernel_rfl, ?_⟩) hHeld rfl ?_
                rotate_left
                · intro w' hSw; (try dsimp only at hSw); go_simp; (try with_reducible rfl)
                simp only [Act.put, List.setIfInBounds_toArray, List.append, List.set_cons_zero, List.set_cons_succ]
                refine take_d (i := 23) (oi := _) (v := ?_) (d := some 33) rfl (by kernel_rfl) (by kernel_rfl) (by kernel_rfl) (fun _ _ _ h => h) (Or.inl ⟨by kernel_rfl, ?_⟩) hHeld rfl ?_
                rotate_left
                · intro w' hSw; (try dsimp only at hSw); go_simp; (try with_reducible rfl)
                simp only [Act.put, List.setIfInBounds_toArray, List.append, List.set_cons_zero, List.set_cons_succ]
                refine take_d (i := 24) (oi := _) (v := ?_) (d := some 34) rfl (by kernel_rfl) (by kernel_rfl) (by kernel_rfl) (fun _ _ _ h => h) (Or.inl ⟨by kernel_rfl, ?_⟩) hHeld rfl ?_
                rotate_left
                · intro w' hSw; (try dsimp only at hSw); go_simp; (try with_reducible rfl)
                simp only [Act.put, List.setIfInBounds_toArray, List.append, List.set_cons_zero, List.set_cons_succ]
                refine wpAnyH_ready (rs := [25]) (by kernel_rfl) (by simp) ?_
                refine AllReadyH.cons rfl (fun K hK => ?_) ?_
                · go_simp
                  refine hK.out _ _ ?_ (fun hHeld => ?_)
                  · (try dsimp only); (first | done | trivial)
                  clear hK K
                  (try simp only [Act.put, List.setIfInBounds_toArray, List.append, List.set_cons_zero, List.set_cons_succ])
                  refine wpAnyH_ready (rs := [26]) (by kernel_rfl) (by simp) ?_
                  refine AllReadyH.cons rfl (fun K hK => ?_) ?_
                  · (go_simp; refine (KC.out s k nm ru l2 w3 N3).mono ?_; rintro e w4 ⟨b4, rfl, G4, H4, Y4⟩)
                    refine hK.out _ _ ?_ (fun hHeld => ?_)
                    · (try dsimp only); (first | done | trivial)
                    clear hK K
                    (try simp only [Act.put, List.setIfInBounds_toArray, List.append, List.set_cons_zero, List.set_cons_succ])
                    cases b4 with
                    | false =>
                      refine take_d (i := 27) (oi := _) (v := ?_) (d := some 37) rfl (by kernel_rfl) (by kernel_rfl) (by kernel_rfl) (fun _ _ _ h => h) (Or.inl ⟨by kernel_rfl, ?_⟩) hHeld rfl ?_
                      rotate_left
                      · intro w' hSw; (try dsimp only at hSw); go_simp; (try with_reducible rfl)
                      simp only [Act.put, List.setIfInBounds_toArray, List.append, List.set_cons_zero, List.set_cons_succ]
                      refine take_d (i := 28) (oi := _) (v := ?_) (d := some 38) rfl (by kernel_rfl) (by kernel_rfl) (by kernel_rfl) (fun _ _ _ h => h) (Or.inl ⟨by kernel_rfl, ?_⟩) hHeld rfl ?_
                      rotate_left
                      · intro w' hSw; (try dsimp only at hSw); go_simp; (try with_reducible rfl)
                      simp only [Act.put, List.setIfInBounds_toArray, List.append, List.set_cons_zero, List.set_cons_succ]
                      refine take_d (i := 29) (oi := _) (v := ?_) (d := some 39) rfl (by kernel_rfl) (by kernel_rfl) (by kernel_rfl) (fun _ _ _ h => h) (Or.inl ⟨by kernel_rfl, ?_⟩) hHeld rfl ?_
                      rotate_left
                      · intro w' hSw; (try dsimp only at hSw); go_simp; (try with_reducible rfl)
                      simp only [Act.put, List.setIfInBounds_toArray, List.append, List.set_cons_zero, List.set_cons_succ]
                      refine take_d (i := 30) (oi := _) (v := undef) (d := some 40) rfl (by kernel_rfl) (by kernel_rfl) (by kernel_rfl) (fun _ _ _ h => h) (Or.inr ⟨by kernel_rfl, rfl⟩) hHeld rfl ?_
                      simp only [Act.put, List.setIfInBounds_toArray, List.append, List.set_cons_zero, List.set_cons_succ]
                      refine take_d (i := 31) (oi := _) (v := undef) (d := some 41) rfl (by kernel_rfl) (by kernel_rfl) (by kernel_rfl) (fun _ _ _ h => h) (Or.inr ⟨by kernel_rfl, rfl⟩) hHeld rfl ?_
                      simp only [Act.put, List.setIfInBounds_toArray, List.append, List.set_cons_zero, List.set_cons_succ]
                      refine take_d (i := 32) (oi := _) (v := undef) (d := some 42) rfl (by kernel_rfl) (by kernel_rfl) (by kernel_rfl) (fun _ _ _ h => h) (Or.inr ⟨by kernel_rfl, rfl⟩) hHeld rfl ?_
                      simp only [Act.put, List.setIfInBounds_toArray, List.append, List.set_cons_zero, List.set_cons_succ]
                      refine take_d (i := 33) (oi := _) (v := undef) (d := some 43) rfl (by kernel_rfl) (by kernel_rfl) (by kernel_rfl) (fun _ _ _ h => h) (Or.inr ⟨by kernel_rfl, rfl⟩) hHeld rfl ?_
                      simp only [Act.put, List.setIfInBounds_toArray, List.append, List.set_cons_zero, List.set_cons_succ]
                      refine take_d (i := 34) (oi := _) (v := undef) (d := some 44) rfl (by kernel_rfl) (by kernel_rfl) (by kernel_rfl) (fun _ _ _ h => h) (Or.inr ⟨by kernel_rfl, rfl⟩) hHeld rfl ?_
                      simp only [Act.put, List.setIfInBounds_toArray, List.append, List.set_cons_zero, List.set_cons_succ]
                      refine take_d (i := 35) (oi := _) (v := ?_) (d := some 45) rfl (by kernel_rfl) (by kernel_rfl) (by kernel_rfl) (fun _ _ _ h => h) (Or.inl ⟨by kernel_rfl, ?_⟩) hHeld rfl ?_
                      rotate_left
                      · intro w' hSw; (try dsimp only at hSw); go_simp; (try with_reducible rfl)
                      simp only [Act.put, List.setIfInBounds_toArray, List.append, List.set_cons_zero, List.set_cons_succ]
                      refine take_d (i := 36) (oi := _) (v := ?_) (d := some 46) rfl (by kernel_rfl) (by kernel_rfl) (by kernel_rfl) (fun _ _ _ h => h) (Or.inl ⟨by kernel_rfl, ?_⟩) hHeld rfl ?_
                      rotate_left
                      · intro w' hSw; (try dsimp only at hSw); go_simp; (try with_reducible rfl)
                      simp only [Act.put, List.setIfInBounds_toArray, List.append, List.set_cons_zero, List.set_cons_succ]
                      refine take_d (i := 37) (oi := _) (v := undef) (d := some 47) rfl (by kernel_rfl) (by kernel_rfl) (by kernel_rfl) (fun _ _ _ h => h) (Or.inr ⟨by kernel_rfl, rfl⟩) hHeld rfl ?_
                      simp only [Act.put, List.setIfInBounds_toArray, List.append, List.set_cons_zero, List.set_cons_succ]
                      refine take_d (i := 38) (oi := _) (v := undef) (d := some 48) rfl (by kernel_rfl) (by kernel_rfl) (by kernel_rfl) (fun _ _ _ h => h) (Or.inr ⟨by kernel_rfl, rfl⟩) hHeld rfl ?_
                      simp only [Act.put, List.setIfInBounds_toArray, List.append, List.set_cons_zero, List.set_cons_succ]
                      refine take_d (i := 39) (oi := _) (v := undef) (d := some 49) rfl (by kernel_rfl) (by kernel_rfl) (by kernel_rfl) (fun _ _ _ h => h) (Or.inr ⟨by kernel_rfl, rfl⟩) hHeld rfl ?_
                      simp only [Act.put, List.setIfInBounds_toArray, List.append, List.set_cons_zero, List.set_cons_succ]
                      refine take_d (i := 40) (oi := _) (v := undef) (d := some 50) rfl (by kernel_rfl) (by kernel_rfl) (by kernel_rfl) (fun _ _ _ h => h) (Or.inr ⟨by kernel_rfl, rfl⟩) hHeld rfl ?_
                      simp only [Act.put, List.setIfInBounds_toArray, List.append, List.set_cons_zero, List.set_cons_succ]
                      refine take_d (i := 41) (oi := _) (v := ?_) (d := some 51) rfl (by kernel_rfl) (by kernel_rfl) (by kernel_rfl) (fun _ _ _ h => h) (Or.inl ⟨by kernel_rfl, ?_⟩) hHeld rfl ?_
                      rotate_left
                      · intro w' hSw; (try dsimp only at hSw); go_simp; (try with_reducible rfl)
                      simp only [Act.put, List.setIfInBounds_toArray, List.append, List.set_cons_zero, List.set_cons_succ]
                      refine take_d (i := 42) (oi := _) (v := ?_) (d := some 52) rfl (by kernel_rfl) (by kernel_rfl) (by kernel_rfl) (fun _ _ _ h => h) (Or.inl ⟨by kernel_rfl, ?_⟩) hHeld rfl ?_
                      rotate_left
                      · intro w' hSw; (try dsimp only at hSw); go_simp; (try with_reducible rfl)
                      simp only [Act.put, List.setIfInBounds_toArray, List.append, List.set_cons_zero, List.set_cons_succ]
                      refine take_d (i := 43) (oi := _) (v := undef) (d := some 53) rfl (by kernel_rfl) (by kernel_rfl) (by kernel_rfl) (fun _ _ _ h => h) (Or.inr ⟨by kernel_rfl, rfl⟩) hHeld rfl ?_
                      simp only [Act.put, List.setIfInBounds_toArray, List.append, List.set_cons_zero, List.set_cons_succ]
                      refine take_d (i := 44) (oi := _) (v := undef) (d := some 54) rfl (by kernel_rfl) (by kernel_rfl) (by kernel_rfl) (fun _ _ _ h => h) (Or.inr ⟨by kernel_rfl, rfl⟩) hHeld rfl ?_
                      simp only [Act.put, List.setIfInBounds_toArray, List.append, List.set_cons_zero, List.set_cons_succ]
                      refine take_d (i := 45) (oi := _) (v := ?_) (d := some 55) rfl (by kernel_rfl) (by kernel_rfl) (by kernel_rfl) (fun _ _ _ h => h) (Or.inl ⟨by kernel_rfl, ?_⟩) hHeld rfl ?_
                      rotate_left
                      · intro w' hSw; (try dsimp only at hSw); go_simp; (try with_reducible rfl)
                      simp only [Act.put, List.setIfInBounds_toArray, List.append, List.set_cons_zero, List.set_cons_succ]
                      refine take_d (i := 46) (oi := _) (v := ?_) (d := some 56) rfl (by kernel_rfl) (by kernel_rfl) (by kernel_rfl) (fun _ _ _ h => h) (Or.inl ⟨by kernel_rfl, ?_⟩) hHeld rfl ?_
                      rotate_left
                      · intro w' hSw; (try dsimp only at hSw); go_simp; (try with_reducible rfl)
                      simp only [Act.put, List.setIfInBounds_toArray, List.append, List.set_cons_zero, List.set_cons_succ]
                      refine take_d (i := 47) (oi := _) (v := undef) (d := some 57) rfl (by kernel_rfl) (by kernel_rfl) (by kernel_rfl) (fun _ _ _ h => h) (Or.inr ⟨by kernel_rfl, rfl⟩) hHeld rfl ?_
                      simp only [Act.put, List.setIfInBounds_toArray, List.append, List.set_cons_zero, List.set_cons_succ]
                      refine take_d (i := 48) (oi := _) (v := undef) (d := some 58) rfl (by kernel_rfl) (by kernel_rfl) (by kernel_rfl) (fun _ _ _ h => h) (Or.inr ⟨by kernel_rfl, rfl⟩) hHeld rfl ?_
                      simp only [Act.put, List.setIfInBounds_toArray, List.append, List.set_cons_zero, List.set_cons_succ]
                      refine take_d (i := 49) (oi := _) (v := undef) (d := some 59) rfl (by kernel_rfl) (by kernel_rfl) (by kernel_rfl) (fun _ _ _ h => h) (Or.inr ⟨by kernel_rfl, rfl⟩) hHeld rfl ?_
                      simp only [Act.put, List.setIfInBounds_toArray, List.append, List.set_cons_zero, List.set_cons_succ]
                      refine take_d (i := 50) (oi := _) (v := ?_) (d := some 60) rfl (by kernel_rfl) (by kernel_rfl) (by kernel_rfl) (fun _ _ _ h => h) (Or.inl ⟨by kernel_rfl, ?_⟩) hHeld rfl ?_
                      rotate_left
                      · intro w' hSw; (try dsimp only at hSw); go_simp; (try with_reducible rfl)
                      simp only [Act.put, List.setIfInBounds_toArray, List.append, List.set_cons_zero, List.set_cons_succ]
                      refine wpAnyH_done (by kernel_rfl) ?_ _
                      refine NoPanic.normal ?_
                      go_wp2
                      go_meet
                      case rel => exact ⟨true, by (first | rfl | kernel_rfl), fun _ => ⟨G4.out, HNO3.out s k l1 nm ru l2 M2 M3 (H4.out (by simp))⟩, fun h => by cases h⟩
                    | true =>
                      obtain ⟨c, p, i, j, l3, M4, N4⟩ := Y4.out (by simp)
                      refine take_d (i := 27) (oi := _) (v := ?_) (d := some 37) rfl (by kernel_rfl) (by kernel_rfl) (by kernel_rfl) (fun _ _ _ h => h) (Or.inl ⟨by kernel_rfl, ?_⟩) hHeld rfl ?_
                      rotate_left
                      · intro w' hSw; (try dsimp only at hSw); go_simp; (try with_reducible rfl)
                      simp only [Act.put, List.setIfInBounds_toArray, List.append, List.set_cons_zero, List.set_cons_succ]
                      refine take_d (i := 28) (oi := _) (v := ?_) (d := some 38) rfl (by kernel_rfl) (by kernel_rfl) (by kernel_rfl) (fun _ _ _ h => h) (Or.inl ⟨by kernel_rfl, ?_⟩) hHeld rfl ?_
                      rotate_left
                      · intro w' hSw; (try dsimp only at hSw); go_simp; (try with_reducible rfl)
                      simp only [Act.put, List.setIfInBounds_toArray, List.append, List.set_cons_zero, List.set_cons_succ]
                      refine take_d (i := 29) (oi := _) (v := ?_) (d := some 39) rfl (by kernel_rfl) (by kernel_rfl) (by kernel_rfl) (fun _ _ _ h => h) (Or.inl ⟨by kernel_rfl, ?_⟩) hHeld rfl ?_
                      rotate_left
                      · intro w' hSw; (try dsimp only at hSw); go_simp; (try with_reducible rfl)
                      simp only [Act.put, List.setIfInBounds_toArray, List.append, List.set_cons_zero, List.set_cons_succ]
                      refine take_d (i := 30) (oi := _) (v := ?_) (d := some 40) rfl (by kernel_rfl) (by kernel_rfl) (by kernel_rfl) (fun _ _ _ h => h) (Or.inl ⟨by kernel_rfl, ?_⟩) hHeld rfl ?_
                      rotate_left
                      · intro w' hSw; (try dsimp only at hSw); go_simp; (try with_reducible rfl)
                      simp only [Act.put, List.setIfInBounds_toArray, List.append, List.set_cons_zero, List.set_cons_succ]
                      refine take_d (i := 31) (oi := _) (v := ?_) (d := some 41) rfl (by kernel_rfl) (by kernel_rfl) (by kernel_rfl) (fun _ _ _ h => h) (Or.inl ⟨by kernel_rfl, ?_⟩) hHeld rfl ?_
                      rotate_left
                      · intro w' hSw; (try dsimp only at hSw); go_simp; (try with_reducible rfl)
                      simp only [Act.put, List.setIfInBounds_toArray, List.append, List.set_cons_zero, List.set_cons_succ]
                      refine wpAnyH_ready (rs := [32]) (by kernel_rfl) (by simp) ?_
                      refine AllReadyH.cons rfl (fun K hK => ?_) ?_
                      · go_simp
                        refine hK.out _ _ ?_ (fun hHeld => ?_)
                        · (try dsimp only); (first | done | trivial)
                        clear hK K
                        (try simp only [Act.put, List.setIfInBounds_toArray, List.append, List.set_cons_zero, List.set_cons_succ])
                        refine wpAnyH_ready (rs := [33]) (by kernel_rfl) (by simp) ?_
                        refine AllReadyH.cons rfl (fun K hK => ?_) ?_
                        · (go_simp; refine (KD.out s k nm ru c p i j l3 w4 N4).mono ?_; rintro e w5 ⟨b5, rfl, G5, H5, Y5⟩)
                          refine hK.out _ _ ?_ (fun hHeld => ?_)
                          · (try dsimp only); (first | done | trivial)
                          clear hK K
                          (try simp only [Act.put, List.setIfInBounds_toArray, List.append, List.set_cons_zero, List.set_cons_succ])
                          cases b5 with
                          | false =>
                            refine take_d (i := 34) (oi := _) (v := ?_) (d := some 44) rfl (by kernel_rfl) (by kernel_rfl) (by kernel_rfl) (fun _ _ _ h => h) (Or.inl ⟨by kernel_rfl, ?_⟩) hHeld rfl ?_
                            rotate_left
                            · intro w' hSw; (try dsimp only at hSw); go_simp; (try with_reducible rfl)
                            simp only [Act.put, List.setIfInBounds_toArray, List.append, List.set_cons_zero, List.set_cons_succ]
                            refine take_d (i := 35) (oi := _) (v := ?_) (d := some 45) rfl (by kernel_rfl) (by kernel_rfl) (by kernel_rfl) (fun _ _ _ h => h) (Or.inl ⟨by kernel_rfl, ?_⟩) hHeld rfl ?_
                            rotate_left
                            · intro w' hSw; (try dsimp only at hSw); go_simp; (try with_reducible rfl)
                            simp only [Act.put, List.setIfInBounds_toArray, List.append, List.set_cons_zero, List.set_cons_succ]
                            refine take_d (i := 36) (oi := _) (v := ?_) (d := some 46) rfl (by kernel_rfl) (by kernel_rfl) (by kernel_rfl) (fun _ _ _ h => h) (Or.inl ⟨by kernel_rfl, ?_⟩) hHeld rfl ?_
                            rotate_left
                            · intro w' hSw; (try dsimp only at hSw); go_simp; (try with_reducible rfl)
                            simp only [Act.put, List.setIfInBounds_toArray, List.append, List.set_cons_zero, List.set_cons_succ]
                            refine take_d (i := 37) (oi := _) (v := undef) (d := some 47) rfl (by kernel_rfl) (by kernel_rfl) (by kernel_rfl) (fun _ _ _ h => h) (Or.inr ⟨by kernel_rfl, rfl⟩) hHeld rfl ?_
                            simp only [Act.put, List.setIfInBounds_toArray, List.append, List.set_cons_zero, List.set_cons_succ]
                            refine take_d (i := 38) (oi := _) (v := undef) (d := some 48) rfl (by kernel_rfl) (by kernel_rfl) (by kernel_rfl) (fun _ _ _ h => h) (Or.inr ⟨by kernel_rfl, rfl⟩) hHeld rfl ?_
                            simp only [Act.put, List.setIfInBounds_toArray, List.append, List.set_cons_zero, List.set_cons_succ]
                            refine take_d (i := 39) (oi := _) (v := undef) (d := some 49) rfl (by kernel_rfl) (by kernel_rfl) (by kernel_rfl) (fun _ _ _ h => h) (Or.inr ⟨by kernel_rfl, rfl⟩) hHeld rfl ?_
                            simp only [Act.put, List.setIfInBounds_toArray, List.append, List.set_cons_zero, List.set_cons_succ]
                            refine take_d (i := 40) (oi := _) (v := undef) (d := some 50) rfl (by kernel_rfl) (by kernel_rfl) (by kernel_rfl) (fun _ _ _ h => h) (Or.inr ⟨by kernel_rfl, rfl⟩) hHeld rfl ?_
                            simp only [Act.put, List.setIfInBounds_toArray, List.append, List.set_cons_zero, List.set_cons_succ]
                            refine take_d (i := 41) (oi := _) (v := ?_) (d := some 51) rfl (by kernel_rfl) (by kernel_rfl) (by kernel_rfl) (fun _ _ _ h => h) (Or.inl ⟨by kernel_rfl, ?_⟩) hHeld rfl ?_
                            rotate_left
                            · intro w' hSw; (try dsimp only at hSw); go_simp; (try with_reducible rfl)
                            simp only [Act.put, List.setIfInBounds_toArray, List.append, List.set_cons_zero, List.set_cons_succ]
                            refine take_d (i := 42) (oi := _) (v := ?_) (d := some 52) rfl (by kernel_rfl) (by kernel_rfl) (by kernel_rfl) (fun _ _ _ h => h) (Or.inl ⟨by kernel_rfl, ?_⟩) hHeld rfl ?_
                            rotate_left
                            · intro w' hSw; (try dsimp only at hSw); go_simp; (try with_reducible rfl)
                            simp only [Act.put, List.setIfInBounds_toArray, List.append, List.set_cons_zero, List.set_cons_succ]
                            refine take_d (i := 43) (oi := _) (v := undef) (d := some 53) rfl (by kernel_rfl) (by kernel_rfl) (by kernel_rfl) (fun _ _ _ h => h) (Or.inr ⟨by kernel_rfl, rfl⟩) hHeld rfl ?_
                            simp only [Act.put, List.setIfInBounds_toArray, List.append, List.set_cons_zero, List.set_cons_succ]
                            refine take_d (i := 44) (oi := _) (v := undef) (d := some 54) rfl (by kernel_rfl) (by kernel_rfl) (by kernel_rfl) (fun _ _ _ h => h) (Or.inr ⟨by kernel_rfl, rfl⟩) hHeld rfl ?_
                            simp only [Act.put, List.setIfInBounds_toArray, List.append, List.set_cons_zero, List.set_cons_succ]
                            refine take_d (i := 45) (oi := _) (v := ?_) (d := some 55) rfl (by kernel_rfl) (by kernel_rfl) (by kernel_rfl) (fun _ _ _ h => h) (Or.inl ⟨by kernel_rfl, ?_⟩) hHeld rfl ?_
                            rotate_left
                            · intro w' hSw; (try dsimp only at hSw); go_simp; (try with_reducible rfl)
                            simp only [Act.put, List.setIfInBounds_toArray, List.append, List.set_cons_zero, List.set_cons_succ]
                            refine take_d (i := 46) (oi := _) (v := ?_) (d := some 56) rfl (by kernel_rfl) (by kernel_rfl) (by kernel_rfl) (fun _ _ _ h => h) (Or.inl ⟨by kernel_rfl, ?_⟩) hHeld rfl ?_
                            rotate_left
                            · intro w' hSw; (try dsimp only at hSw); go_simp; (try with_reducible rfl)
                            simp only [Act.put, List.setIfInBounds_toArray, List.append, List.set_cons_zero, List.set_cons_succ]
                            refine take_d (i := 47) (oi := _) (v := undef) (d := some 57) rfl (by kernel_rfl) (by kernel_rfl) (by kernel_rfl) (fun _ _ _ h => h) (Or.inr ⟨by kernel_rfl, rfl⟩) hHeld rfl ?_
                            simp only [Act.put, List.setIfInBounds_toArray, List.append, List.set_cons_zero, List.set_cons_succ]
                            refine take_d (i := 48) (oi := _) (v := undef) (d := some 58) rfl (by kernel_rfl) (by kernel_rfl) (by kernel_rfl) (fun _ _ _ h => h) (Or.inr ⟨by kernel_rfl, rfl⟩) hHeld rfl ?_
                            simp only [Act.put, List.setIfInBounds_toArray, List.append, List.set_cons_zero, List.set_cons_succ]
                            refine take_d (i := 49) (oi := _) (v := undef) (d := some 59) rfl (by kernel_rfl) (by kernel_rfl) (by kernel_rfl) (fun _ _ _ h => h) (Or.inr ⟨by kernel_rfl, rfl⟩) hHeld rfl ?_
                            simp only [Act.put, List.setIfInBounds_toArray, List.append, List.set_cons_zero, List.set_cons_succ]
                            refine take_d (i := 50) (oi := _) (v := ?_) (d := some 60) rfl (by kernel_rfl) (by kernel_rfl) (by kernel_rfl) (fun _ _ _ h => h) (Or.inl ⟨by kernel_rfl, ?_⟩) hHeld rfl ?_
                            rotate_left
                            · intro w' hSw; (try dsimp only at hSw); go_simp; (try with_reducible rfl)
                            simp only [Act.put, List.setIfInBounds_toArray, List.append, List.set_cons_zero, List.set_cons_succ]
                            refine wpAnyH_done (by kernel_rfl) ?_ _
                            refine NoPanic.normal ?_
                            go_wp2
                            go_meet
                            case rel => exact ⟨true, by (first | rfl | kernel_rfl), fun _ => ⟨G5.out, HNO4.out s k l1 nm ru l2 c p i j l3 M2 M3 M4 (H5.out (by simp))⟩, fun h => by cases h⟩
                          | true =>
                            obtain ⟨rk, l4, M5, N5⟩ := Y5.out (by simp)
                            refine take_d (i := 34) (oi := _) (v := ?_) (d := some 44) rfl (by kernel_rfl) (by kernel_rfl) (by kernel_rfl) (fun _ _ _ h => h) (Or.inl ⟨by kernel_rfl, ?_⟩) hHeld rfl ?_
                            rotate_left
                            · intro w' hSw; (try dsimp only at hSw); go_simp; (try with_reducible rfl)
                            simp only [Act.put, List.setIfInBounds_toArray, List.append, List.set_cons_zero, List.set_cons_succ]
                            refine take_d (i := 35) (oi := _) (v := ?_) (d := some 45) rfl (by kernel_rfl) (by kernel_rfl) (by kernel_rfl) (fun _ _ _ h => h) (Or.inl ⟨by kernel_rfl, ?_⟩) hHeld rfl ?_
                            rotate_left
                            · intro w' hSw; (try dsimp only at hSw); go_simp; (try with_reducible rfl)
                            simp only [Act.put, List.setIfInBounds_toArray, List.append, List.set_cons_zero, List.set_cons_succ]
                            refine take_d (i := 36) (oi := _) (v := ?_) (d := some 46) rfl (by kernel_rfl) (by kernel_rfl) (by kernel_rfl) (fun _ _ _ h => h) (Or.inl ⟨by kernel_rfl, ?_⟩) hHeld rfl ?_
                            rotate_left
                            · intro w' hSw; (try dsimp only at hSw); go_simp; (try with_reducible rfl)
                            simp only [Act.put, List.setIfInBounds_toArray, List.append, List.set_cons_zero, List.set_cons_succ]
                            refine take_d (i := 37) (oi := _) (v := ?_) (d := some 47) rfl (by kernel_rfl) (by kernel_rfl) (by kernel_rfl) (fun _ _ _ h => h) (Or.inl ⟨by kernel_rfl, ?_⟩) hHeld rfl ?_
                            rotate_left
                            · intro w' hSw; (try dsimp only at hSw); go_simp; (try with_reducible rfl)
                            simp only [Act.put, List.setIfInBounds_toArray, List.append, List.set_cons_zero, List.set_cons_succ]
                            refine wpAnyH_ready (rs := [38]) (by kernel_rfl) (by simp) ?_
                            refine AllReadyH.cons rfl (fun K hK => ?_) ?_
                            · go_simp
                              refine hK.out _ _ ?_ (fun hHeld => ?_)
                              · (try dsimp only); (first | done | trivial)
                              clear hK K
                              (try simp only [Act.put, List.setIfInBounds_toArray, List.append, List.set_cons_zero, List.set_cons_succ])
                              refine wpAnyH_ready (rs := [39]) (by kernel_rfl) (by simp) ?_
                              refine AllReadyH.cons rfl (fun K hK => ?_) ?_
                              · (go_simp; refine (KE.out s k nm ru c p i j rk l4 w5 N5).mono ?_; rintro e w6 ⟨b6, rfl, G6, H6, Y6⟩)
                                refine hK.out _ _ ?_ (fun hHeld => ?_)
                                · (try dsimp only); (first | done | trivial)
                                clear hK K
                                (try simp only [Act.put, List.setIfInBounds_toArray, List.append, List.set_cons_zero, List.set_cons_succ])
                                cases b6 with
                                | false =>
                                  refine take_d (i := 40) (oi := _) (v := ?_) (d := some 50) rfl (by kernel_rfl) (by kernel_rfl) (by kernel_rfl) (fun _ _ _ h => h) (Or.inl ⟨by kernel_rfl, ?_⟩) hHeld rfl ?_
                                  rotate_left
                                  · intro w' hSw; (try dsimp only at hSw); go_simp; (try with_reducible rfl)
                                  simp only [Act.put, List.setIfInBounds_toArray, List.append, List.set_cons_zero, List.set_cons_succ]
                                  refine take_d (i := 41) (oi := _) (v := ?_) (d := some 51) rfl (by kernel_rfl) (by kernel_rfl) (by kernel_rfl) (fun _ _ _ h => h) (Or.inl ⟨by kernel_rfl, ?_⟩) hHeld rfl ?_
                                  rotate_left
                                  · intro w' hSw; (try dsimp only at hSw); go_simp; (try with_reducible rfl)
                                  simp only [Act.put, List.setIfInBounds_toArray, List.append, List.set_cons_zero, List.set_cons_succ]
                                  refine take_d (i := 42) (oi := _) (v := ?_) (d := some 52) rfl (by kernel_rfl) (by kernel_rfl) (by kernel_rfl) (fun _ _ _ h => h) (Or.inl ⟨by kernel_rfl, ?_⟩) hHeld rfl ?_
                                  rotate_left
                                  · intro w' hSw; (try dsimp only at hSw); go_simp; (try with_reducible rfl)
                                  simp only [Act.put, List.setIfInBounds_toArray, List.append, List.set_cons_zero, List.set_cons_succ]
                                  refine take_d (i := 43) (oi := _) (v := undef) (d := some 53) rfl (by kernel_rfl) (by kernel_rfl) (by kernel_rfl) (fun _ _ _ h => h) (Or.inr ⟨by kernel_rfl, rfl⟩) hHeld rfl ?_
                                  simp only [Act.put, List.setIfInBounds_toArray, List.append, List.set_cons_zero, List.set_cons_succ]
                                  refine take_d (i := 44) (oi := _) (v := undef) (d := some 54) rfl (by kernel_rfl) (by kernel_rfl) (by kernel_rfl) (fun _ _ _ h => h) (Or.inr ⟨by kernel_rfl, rfl⟩) hHeld rfl ?_
                                  simp only [Act.put, List.setIfInBounds_toArray, List.append, List.set_cons_zero, List.set_cons_succ]
                                  refine take_d (i := 45) (oi := _) (v := ?_) (d := some 55) rfl (by kernel_rfl) (by kernel_rfl) (by kernel_rfl) (fun _ _ _ h => h) (Or.inl ⟨by kernel_rfl, ?_⟩) hHeld rfl ?_
                                  rotate_left
                                  · intro w' hSw; (try dsimp only at hSw); go_simp; (try with_reducible rfl)
                                  simp only [Act.put, List.setIfInBounds_toArray, List.append, List.set_cons_zero, List.set_cons_succ]
                                  refine take_d (i := 46) (oi := _) (v := ?_) (d := some 56) rfl (by kernel_rfl) (by kernel_rfl) (by kernel_rfl) (fun _ _ _ h => h) (Or.inl ⟨by kernel_rfl, ?_⟩) hHeld rfl ?_
                                  rotate_left
                                  · intro w' hSw; (try dsimp only at hSw); go_simp; (try with_reducible rfl)
                                  simp only [Act.put, List.setIfInBounds_toArray, List.append, List.set_cons_zero, List.set_cons_succ]
                                  refine take_d (i := 47) (oi := _) (v := undef) (d := some 57) rfl (by kernel_rfl) (by kernel_rfl) (by kernel_rfl) (fun _ _ _ h => h) (Or.inr ⟨by kernel_rfl, rfl⟩) hHeld rfl ?_
                                  simp only [Act.put, List.setIfInBounds_toArray, List.append, List.set_cons_zero, List.set_cons_succ]
                                  refine take_d (i := 48) (oi := _) (v := undef) (d := some 58) rfl (by kernel_rfl) (by kernel_rfl) (by kernel_rfl) (fun _ _ _ h => h) (Or.inr ⟨by kernel_rfl, rfl⟩) hHeld rfl ?_
                                  simp only [Act.put, List.setIfInBounds_toArray, List.append, List.set_cons_zero, List.set_cons_succ]
                                  refine take_d (i := 49) (oi := _) (v := undef) (d := some 59) rfl (by kernel_rfl) (by kernel_rfl) (by kernel_rfl) (fun _ _ _ h => h) (Or.inr ⟨by kernel_rfl, rfl⟩) hHeld rfl ?_
                                  simp only [Act.put, List.setIfInBounds_toArray, List.append, List.set_cons_zero, List.set_cons_succ]
                                  refine take_d (i := 50) (oi := _) (v := ?_) (d := some 60) rfl (by kernel_rfl) (by kernel_rfl) (by kernel_rfl) (fun _ _ _ h => h) (Or.inl ⟨by kernel_rfl, ?_⟩) hHeld rfl ?_
                                  rotate_left
                                  · intro w' hSw; (try dsimp only at hSw); go_simp; (try with_reducible rfl)
                                  simp only [Act.put, List.setIfInBounds_toArray, List.append, List.set_cons_zero, List.set_cons_succ]
                                  refine wpAnyH_done (by kernel_rfl) ?_ _
                                  refine NoPanic.normal ?_
                                  go_wp2
                                  go_meet
                                  case rel => exact ⟨true, by (first | rfl | kernel_rfl), fun _ => ⟨G6.out, HNO5.out s k l1 nm ru l2 c p i j l3 rk l4 M2 M3 M4 M5 (H6.out (by simp))⟩, fun h => by cases h⟩
                                | true =>
                                  obtain ⟨np, l5, M6, N6⟩ := Y6.out (by simp); have c1 : w6.cell? ⟨W.heap.size + 1, 0, none⟩ = some (.int .i64 s) := Lib.cell_of_heap N6.tri.hs 0; have d0 : w6.cell? ⟨W.heap.size, 0, none⟩ = some (.bool false) := Lib.cell_of_heap N6.tri.hn 0; have d1 : w6.cell? ⟨W.heap.size, 1, none⟩ = some (.int .i64 k) := Lib.cell_of_heap N6.tri.hn 1; have d2 : w6.cell? ⟨W.heap.size, 2, none⟩ = some (.int .i64 nm) := Lib.cell_of_heap N6.tri.hn 2; have d3 : w6.cell? ⟨W.heap.size, 3, none⟩ = some (.int .i64 ru) := Lib.cell_of_heap N6.tri.hn 3; have d4 : w6.cell? ⟨W.heap.size, 4, none⟩ = some (.int .i64 c) := Lib.cell_of_heap N6.tri.hn 4; have d5 : w6.cell? ⟨W.heap.size, 5, none⟩ = some (.int .i64 p) := Lib.cell_of_heap N6.tri.hn 5; have d6 : w6.cell? ⟨W.heap.size, 6, none⟩ = some (.int .i64 i) := Lib.cell_of_heap N6.tri.hn 6; have d7 : w6.cell? ⟨W.heap.size, 7, none⟩ = some (.int .i64 j) := Lib.cell_of_heap N6.tri.hn 7; have d8 : w6.cell? ⟨W.heap.size, 8, none⟩ = some (.int .i64 rk) := Lib.cell_of_heap N6.tri.hn 8; have d9 : w6.cell? ⟨W.heap.size, 9, none⟩ = some (.slice none 0 0) := Lib.cell_of_heap N6.tri.hn 9
                                  refine take_d (i := 40) (oi := _) (v := ?_) (d := some 50) rfl (by kernel_rfl) (by kernel_rfl) (by kernel_rfl) (fun _ _ _ h => h) (Or.inl ⟨by kernel_rfl, ?_⟩) hHeld rfl ?_
                                  rotate_left
                                  · intro w' hSw; (try dsimp only at hSw); go_simp; (try with_reducible rfl)
                                  simp only [Act.put, List.setIfInBounds_toArray, List.append, List.set_cons_zero, List.set_cons_succ]
                                  refine take_d (i := 41) (oi := _) (v := ?_) (d := some 51) rfl (by kernel_rfl) (by kernel_rfl) (by kernel_rfl) (fun _ _ _ h => h) (Or.inl ⟨by kernel_rfl, ?_⟩) hHeld rfl ?_
                                  rotate_left
                                  · intro w' hSw; (try dsimp only at hSw); go_simp; (try with_reducible rfl)
                                  simp only [Act.put, List.setIfInBounds_toArray, List.append, List.set_cons_zero, List.set_cons_succ]
                                  refine take_d (i := 42) (oi := _) (v := ?_) (d := some 52) rfl (by kernel_rfl) (by kernel_rfl) (by kernel_rfl) (fun _ _ _ h => h) (Or.inl ⟨by kernel_rfl, ?_⟩) hHeld rfl ?_
                                  rotate_left
                                  · intro w' hSw; (try dsimp only at hSw); go_simp; (try with_reducible rfl)
                                  simp only [Act.put, List.setIfInBounds_toArray, List.append, List.set_cons_zero, List.set_cons_succ]
                                  refine wpAnyH_ready (rs := [43]) (by kernel_rfl) (by simp) ?_
                                  refine AllReadyH.cons rfl (fun K hK => ?_) ?_
                                  · go_simp
                                    refine hK.out _ _ ?_ (fun hHeld => ?_)
                                    · (try dsimp only); (first | done | trivial)
                                    clear hK K
                                    (try simp only [Act.put, List.setIfInBounds_toArray, List.append, List.set_cons_zero, List.set_cons_succ])
                                    refine wpAnyH_ready (rs := [44]) (by kernel_rfl) (by simp) ?_
                                    refine AllReadyH.cons rfl (fun K hK => ?_) ?_
                                    · go_simp
                                      refine hK.out _ _ ?_ (fun hHeld => ?_)
                                      · (try dsimp only); (first | done | trivial)
                                      clear hK K
                                      generalize hbg : decide ((1 : Int) < s) = bg
                                      (try simp only [Act.put, List.setIfInBounds_toArray, List.append, List.set_cons_zero, List.set_cons_succ])
                                      cases bg with
                                      | false =>
                                        refine take_d (i := 45) (oi := _) (v := ?_) (d := some 55) rfl (by kernel_rfl) (by kernel_rfl) (by kernel_rfl) (fun _ _ _ h => h) (Or.inl ⟨by kernel_rfl, ?_⟩) hHeld rfl ?_
                                        rotate_left
                                        · intro w' hSw; (try dsimp only at hSw); go_simp; (try with_reducible rfl)
                                        simp only [Act.put, List.setIfInBounds_toArray, List.append, List.set_cons_zero, List.set_cons_succ]
                                        refine take_d (i := 46) (oi := _) (v := ?_) (d := some 56) rfl (by kernel_rfl) (by kernel_rfl) (by kernel_rfl) (fun _ _ _ h => h) (Or.inl ⟨by kernel_rfl, ?_⟩) hHeld rfl ?_
                                        rotate_left
                                        · intro w' hSw; (try dsimp only at hSw); go_simp; (try with_reducible rfl)
                                        simp only [Act.put, List.setIfInBounds_toArray, List.append, List.set_cons_zero, List.set_cons_succ]
                                        refine wpAnyH_ready (rs := [47]) (by kernel_rfl) (by simp) ?_
                                        refine AllReadyH.cons rfl (fun K hK => ?_) ?_
                                        · go_simp
                                          refine hK.out _ _ ?_ (fun hHeld => ?_)
                                          · (try dsimp only); (first | done | trivial)
                                          clear hK K
                                          (try simp only [Act.put, List.setIfInBounds_toArray, List.append, List.set_cons_zero, List.set_cons_succ])
                                          refine wpAnyH_ready (rs := [48]) (by kernel_rfl) (by simp) ?_
                                          refine AllReadyH.cons rfl (fun K hK => ?_) ?_
                                          · (go_simp; refine (KI.out s k nm ru c p i j rk w6).mono ?_; rintro e w7 ⟨b7, rfl, H7, B7⟩)
                                            refine hK.out _ _ ?_ (fun hHeld => ?_)
                                            · (try dsimp only); (first | done | trivial)
                                            clear hK K
                                            (try simp only [Act.put, List.setIfInBounds_toArray, List.append, List.set_cons_zero, List.set_cons_succ])
                                            cases b7 with
                                            | false =>
                                              refine take_d (i := 49) (oi := _) (v := ?_) (d := some 59) rfl (by kernel_rfl) (by kernel_rfl) (by kernel_rfl) (fun _ _ _ h => h) (Or.inl ⟨by kernel_rfl, ?_⟩) hHeld rfl ?_
                                              rotate_left
                                              · intro w' hSw; (try dsimp only at hSw); go_simp; (try with_reducible rfl)
                                              simp only [Act.put, List.setIfInBounds_toArray, List.append, List.set_cons_zero, List.set_cons_succ]
                                              refine take_d (i := 50) (oi := _) (v := ?_) (d := some 60) rfl (by kernel_rfl) (by kernel_rfl) (by kernel_rfl) (fun _ _ _ h => h) (Or.inl ⟨by kernel_rfl, ?_⟩) hHeld rfl ?_
                                              rotate_left
                                              · intro w' hSw; (try dsimp only at hSw); go_simp; (try with_reducible rfl)
                                              simp only [Act.put, List.setIfInBounds_toArray, List.append, List.set_cons_zero, List.set_cons_succ]
                                              refine wpAnyH_done (by kernel_rfl) ?_ _
                                              refine NoPanic.normal ?_
                                              go_wp2
                                              go_meet
                                              case rel => exact ⟨true, by (first | rfl | kernel_rfl), fun _ => ⟨N6.gb.trans (Gb.below B7.out), HNO6.out s k l1 nm ru l2 c p i j l3 rk l4 np l5 M2 M3 M4 M5 M6 (Or.inr H7.out.symm)⟩, fun h => by cases h⟩
                                            | true =>
                                              refine take_d (i := 49) (oi := _) (v := ?_) (d := some 59) rfl (by kernel_rfl) (by kernel_rfl) (by kernel_rfl) (fun _ _ _ h => h) (Or.inl ⟨by kernel_rfl, ?_⟩) hHeld rfl ?_
                                              rotate_left
                                              · intro w' hSw; (try dsimp only at hSw); go_simp; (try with_reducible rfl)
                                              simp only [Act.put, List.setIfInBounds_toArray, List.append, List.set_cons_zero, List.set_cons_succ]
                                              refine take_d (i := 50) (oi := _) (v := ?_) (d := some 60) rfl (by kernel_rfl) (by kernel_rfl) (by kernel_rfl) (fun _ _ _ h => h) (Or.inl ⟨by kernel_rfl, ?_⟩) hHeld rfl ?_
                                              rotate_left
                                              · intro w' hSw; (try dsimp only at hSw); go_simp; (try with_reducible rfl)
                                              simp only [Act.put, List.setIfInBounds_toArray, List.append, List.set_cons_zero, List.set_cons_succ]
                                              refine wpAnyH_done (by kernel_rfl) ?_ _
                                              refine NoPanic.normal ?_
                                              go_wp2
                                              go_meet
                                              case rel => exact ⟨false, by (first | rfl | kernel_rfl), fun h => (by cases h), fun _ => ⟨s, k, nm, ru, c, p, i, j, rk, np, l5, HNP.out M6, HYES.out s k l1 nm ru l2 c p i j l3 rk l4 np l5 M2 M3 M4 M5 M6 (by have := of_decide_eq_false hbg; omega) H7.out.symm, N6.keep B7.out⟩⟩
                                          exact AllReadyH.nil
                                        exact AllReadyH.nil
                                      | true =>
                                        refine take_d (i := 45) (oi := _) (v := ?_) (d := some 55) rfl (by kernel_rfl) (by kernel_rfl) (by kernel_rfl) (fun _ _ _ h => h) (Or.inl ⟨by kernel_rfl, ?_⟩) hHeld rfl ?_
                                        rotate_left
                                        · intro w' hSw; (try dsimp only at hSw); go_simp; (try with_reducible rfl)
                                        simp only [Act.put, List.setIfInBounds_toArray, List.append, List.set_cons_zero, List.set_cons_succ]
                                        refine take_d (i := 46) (oi := _) (v := ?_) (d := some 56) rfl (by kernel_rfl) (by kernel_rfl) (by kernel_rfl) (fun _ _ _ h => h) (Or.inl ⟨by kernel_rfl, ?_⟩) hHeld rfl ?_
                                        rotate_left
                                        · intro w' hSw; (try dsimp only at hSw); go_simp; (try with_reducible rfl)
                                        simp only [Act.put, List.setIfInBounds_toArray, List.append, List.set_cons_zero, List.set_cons_succ]
                                        refine take_d (i := 47) (oi := _) (v := undef) (d := some 57) rfl (by kernel_rfl) (by kernel_rfl) (by kernel_rfl) (fun _ _ _ h => h) (Or.inr ⟨by kernel_rfl, rfl⟩) hHeld rfl ?_
                                        simp only [Act.put, List.setIfInBounds_toArray, List.append, List.set_cons_zero, List.set_cons_succ]
                                        refine take_d (i := 48) (oi := _) (v := undef) (d := some 58) rfl (by kernel_rfl) (by kernel_rfl) (by kernel_rfl) (fun _ _ _ h => h) (Or.inr ⟨by kernel_rfl, rfl⟩) hHeld rfl ?_
                                        simp only [Act.put, List.setIfInBounds_toArray, List.append, List.set_cons_zero, List.set_cons_succ]
                                        refine take_d (i := 49) (oi := _) (v := undef) (d := some 59) rfl (by kernel_rfl) (by kernel_rfl) (by kernel_rfl) (fun _ _ _ h => h) (Or.inr ⟨by kernel_rfl, rfl⟩) hHeld rfl ?_
                                        simp only [Act.put, List.setIfInBounds_toArray, List.append, List.set_cons_zero, List.set_cons_succ]
                                        refine take_d (i := 50) (oi := _) (v := ?_) (d := some 60) rfl (by kernel_rfl) (by kernel_rfl) (by kernel_rfl) (fun _ _ _ h => h) (Or.inl ⟨by kernel_rfl, ?_⟩) hHeld rfl ?_
                                        rotate_left
                                        · intro w' hSw; (try dsimp only at hSw); go_simp; (try with_reducible rfl)
                                        simp only [Act.put, List.setIfInBounds_toArray, List.append, List.set_cons_zero, List.set_cons_succ]
                                        refine wpAnyH_done (by kernel_rfl) ?_ _
                                        refine NoPanic.normal ?_
                                        go_wp2
                                        go_meet
                                        case rel => exact ⟨true, by (first | rfl | kernel_rfl), fun _ => ⟨N6.gb, HNO6.out s k l1 nm ru l2 c p i j l3 rk l4 np l5 M2 M3 M4 M5 M6 (Or.inl (of_decide_eq_true hbg))⟩, fun h => by cases h⟩
                                    exact AllReadyH.nil
                                  exact AllReadyH.nil
                              exact AllReadyH.nil
                            exact AllReadyH.nil
                        exact AllReadyH.nil
                      exact AllReadyH.nil
                  exact AllReadyH.nil
                exact AllReadyH.nil
            exact AllReadyH.nil
          exact AllReadyH.nil
      exact AllReadyH.nil
    exact AllReadyH.nil
  case rest =>
    clear KA KB KC KD KE KI HNO1 HNO2 HNO3 HNO4 HNO5 HNO6 HYES HNP HN1
    obtain ⟨bb, rfl, HY, HZ⟩ := hcut
    cases bb with
    | true =>
      have h1 := HY.out (by simp)
      have HG : Hid (Gb rb W wc) := h1.1
      have HNn : Hid (ndR l = none) := h1.2
      clear HY HZ h1
      go_wp2
      go_ret
      unfold NodeEnd; rw [HNn.out]
      exact ⟨HG, rfl⟩
    | false =>
      obtain ⟨s, k, nm, ru, c, p, i, j, rk, np, l5, hnp, hres, hst⟩ := HZ.out (by simp)
      have HRES : Hid (ndR l = (match manyR pkR np.toNat l5 with | some (ps, l6) => some (⟨decide (s = 1), k, nm, ru, c, p, i, j, rk, ps⟩, l6) | none => none)) := hres
      have HST : Hid (NdS W rb #[.bool false, .int .i64 k, .int .i64 nm, .int .i64 ru, .int .i64 c, .int .i64 p, .int .i64 i, .int .i64 j, .int .i64 rk, .slice none 0 0] s np l5 wc) := hst
      have HNP2 : Hid (0 ≤ np ∧ np ≤ 65535) := hnp
      have c1 : wc.cell? ⟨W.heap.size + 1, 0, none⟩ = some (.int .i64 s) := Lib.cell_of_heap hst.tri.hs 0
      have c2 : wc.cell? ⟨W.heap.size, 0, none⟩ = some (.bool false) := Lib.cell_of_heap hst.tri.hn 0
      have z2 : wc.frozen? ⟨W.heap.size, 0, none⟩ = false := Lib.frozen_of_heap hst.tri.hn 0
      have T2 := hst.tri.setN 0 (.bool (decide (s = 1)))
      have c3 : (wc.setCell ⟨W.heap.size, 0, none⟩ (.bool (decide (s = 1)))).cell? ⟨W.heap.size + 1 + 1, 0, none⟩ = some (.int .i64 np) := Lib.cell_of_heap T2.hp 0
      have HL0 : Hid (NdL W rb ⟨decide (s = 1), k, nm, ru, c, p, i, j, rk, []⟩ none 0 0 [] [] (fun _ => False) l5 (wc.setCell ⟨W.heap.size, 0, none⟩ (.bool (decide (s = 1))))) :=
        ⟨T2.hn, World.ownsRow_nil _ _ _ _, ⟨rfl, fun _ _ _ h _ => by simp at h⟩, fun _ h => h.elim, fun _ _ h => h, (Go.Deep.blk_setCell_other _ ⟨W.heap.size, 0, none⟩ _ _ (by show rb ≠ W.heap.size; omega)).trans hst.rd, ⟨hst.gb.os, hst.gb.tape, hst.gb.output, by have := hst.gb.size; simpa [World.setCell] using this, fun i hi hne3 => (Go.Deep.blk_setCell_other _ ⟨W.heap.size, 0, none⟩ _ _ (by show i ≠ W.heap.size; omega)).trans (hst.gb.block i hi hne3)⟩, hst.hl⟩
      clear HY HZ hres hst hnp T2
      obtain ⟨sg, hsg⟩ : ∃ b, decide (s = 1) = b := ⟨_, rfl⟩
      rw [hsg] at HRES c3 HL0
      have hsg2 : (s == 1) = sg := hsg
      clear hsg
      have A1 := as_pk
      have A2 := as_pkn
      have hnpI : np ≤ 65535 := HNP2.out.2
      go_wp2
      go_loopw [65] (fun x wr => ∃ (kk : Nat) (pp : Option Addr) (cp : Nat) (ps : List Pk) (us : List Value) (F : Nat → Prop) (r : List UInt8), kk ≤ np.toNat ∧ x = .int .i64 (kk : Int) ∧ Hid (NdL W rb ⟨sg, k, nm, ru, c, p, i, j, rk, []⟩ pp kk cp ps us F r wr ∧ ps.length = kk ∧ manyR pkR np.toNat l5 = fromR pkR ps (np.toNat - kk) r)) (fun x _ => np.toNat - (intOf x).toNat)
      case atStart => exact ⟨0, none, 0, [], [], _, l5, by omega, rfl, HL0.out, rfl, by rw [fromR_nil]; rfl⟩
      case round =>
        obtain ⟨kk, pp, cp, ps, us, F, r, hk, rfl, HI⟩ := hrel
        have hnp := HNP2.out
        by_cases hlt : kk < np.toNat
        · have hltI : (kk : Int) < np := by omega
          have KP : Hid (Calls Try.prog 53 #[.pointer (some ⟨rb, 0, none⟩)] wr fun e w' => PickEnd wr rb r e w') := rpick_any wr rb r HI.out.1.rd HI.out.1.hl
          cases m3 : pkR r with
          | none =>
            have HPk : Hid (ndR l = none) := by
              show ndR l = none
              rw [HRES.out, HI.out.2.2, show np.toNat - kk = (np.toNat - (kk + 1)) + 1 by omega, fromR_no m3]
            go_wp2_with (go_at_call 53; refine KP.out.mono ?_; rintro e w2 hE; unfold PickEnd at hE; rw [m3] at hE; obtain ⟨g2, rfl⟩ := hE)
            go_ret
            unfold NodeEnd; rw [HPk.out]
            exact ⟨HI.out.1.gb.trans (g2.out.trans (Gb.below (bel1 _ _))), rfl⟩
          | some q3 =>
            obtain ⟨x, r2⟩ := q3
            go_wp2_with (first
              | (go_at_call 53; refine KP.out.mono ?_; rintro e w2 hE; unfold PickEnd at hE; rw [m3] at hE; obtain ⟨g2, pv, cv, rfl, hx⟩ := hE; obtain ⟨p2, cp2, w4, hrun, z1, z2, HL, z3⟩ := HI.out.1.push hrb x pv cv g2.out hx.out.1 hx.out.2.1 hx.out.2.2 (by omega); have zlt := cell_lt z3)
              | (at_builtin; refine wpList_run_appendP rfl _ _ 44 rfl _ _ rfl rfl hrun ?_))
            go_roundw
            case rel =>
              obtain ⟨us2, F2, HL2⟩ := HL.out
              refine ⟨kk + 1, p2, cp2, ps ++ [x], us2, F2, r2, by omega, by go_num, HL2, by simp [HI.out.2.1], ?_⟩
              rw [HI.out.2.2, show np.toNat - kk = (np.toNat - (kk + 1)) + 1 by omega, fromR_yes m3]
            case measure => simp [intOf]; omega
        · obtain rfl : kk = np.toNat := by omega
          have hnpE : ((np.toNat : Nat) : Int) = np := by omega
          have y0 : wr.cell? ⟨W.heap.size, 0, none⟩ = some (.bool sg) := Lib.cell_of_heap HI.out.1.hn 0
          have y1 : wr.cell? ⟨W.heap.size, 1, none⟩ = some (.int .i64 k) := Lib.cell_of_heap HI.out.1.hn 1
          have y2 : wr.cell? ⟨W.heap.size, 2, none⟩ = some (.int .i64 nm) := Lib.cell_of_heap HI.out.1.hn 2
          have y3 : wr.cell? ⟨W.heap.size, 3, none⟩ = some (.int .i64 ru) := Lib.cell_of_heap HI.out.1.hn 3
          have y4 : wr.cell? ⟨W.heap.size, 4, none⟩ = some (.int .i64 c) := Lib.cell_of_heap HI.out.1.hn 4
          have y5 : wr.cell? ⟨W.heap.size, 5, none⟩ = some (.int .i64 p) := Lib.cell_of_heap HI.out.1.hn 5
          have y6 : wr.cell? ⟨W.heap.size, 6, none⟩ = some (.int .i64 i) := Lib.cell_of_heap HI.out.1.hn 6
          have y7 : wr.cell? ⟨W.heap.size, 7, none⟩ = some (.int .i64 j) := Lib.cell_of_heap HI.out.1.hn 7
          have y8 : wr.cell? ⟨W.heap.size, 8, none⟩ = some (.int .i64 rk) := Lib.cell_of_heap HI.out.1.hn 8
          have y9 : wr.cell? ⟨W.heap.size, 9, none⟩ = some (.slice pp np.toNat cp) := Lib.cell_of_heap HI.out.1.hn 9
          go_wp2
          go_ret
          have hp : ndR l = some (⟨sg, k, nm, ru, c, p, i, j, rk, ps⟩, r) := by
            rw [HRES.out, HI.out.2.2, Nat.sub_self, fromR_zero]
          unfold NodeEnd; rw [hp]
          refine ⟨HI.out.1.gb, pp, cp, ?_, HI.out.1.rd, ?_, HI.out.1.hl⟩
          · show _ = Ending.returned (.iface 46 (.agg #[.bool sg, .int .i64 k, .int .i64 nm, .int .i64 ru, .int .i64 c, .int .i64 p, .int .i64 i, .int .i64 j, .int .i64 rk, .slice pp ps.length cp]))
            rw [HI.out.2.1]; rfl
          · show IsPks _ _ (.slice pp ps.length cp) ps
            rw [HI.out.2.1]
            have h5 := HI.out.1.own
            refine ⟨us, ?_, HI.out.1.pin.1, fun q y u e1 e2 => Reads.low (HI.out.1.pin.2 q y u e1 e2) (fun b hb _ => by have := (HI.out.1.fl b hb).1; omega)⟩
            have := Reads.of h5 (F := fun b => W.heap.size ≤ b) (fun b hb => (h5.lt b hb).1)
            rw [HI.out.2.1]; exact this
end Go.Proofs.Ytgeajdfajfdjcaa
