import Derived.Test.YtejhdhlpdcfedaaGreatTabQ
import Derived.Deep.AppendLies
import Derived.Laws.OwnMore
import Derived.ArgAppend
import Derived.Deep.QuietTactic
import Derived.Laws.MakeOwn
/- The document's ranks, round by round: plain; and two rows of numbers that grow side by side. -/
namespace Go.Proofs.YtejhdhlpdcfedaaGreat
set_option linter.unusedVariables false
open Go.RowKit

def ups (k n : Nat) : List Nat := List.range' k (n - k)
theorem ups_lt {k n : Nat} (h : k < n) : ups k n = k :: ups (k + 1) n := by
  unfold ups
  obtain ⟨m, e⟩ : ∃ m, n - k = m + 1 := ⟨n - k - 1, by omega⟩
  rw [e, show n - (k + 1) = m by omega, List.range'_succ]
theorem ups_end {k n : Nat} (h : n ≤ k) : ups k n = [] := by
  unfold ups
  rw [show n - k = 0 by omega]; rfl
theorem ups_mem {k n x : Nat} : x ∈ ups k n ↔ k ≤ x ∧ x < n := by
  unfold ups
  rw [List.mem_range'_1]; omega
theorem ups_len (k n : Nat) : (ups k n).length = n - k := by unfold ups; simp
theorem flatT_len {α : Type} {f : α → List Nat} {k : Nat} : ∀ {l : List α}, (∀ x, x ∈ l → (f x).length ≤ k) → (l.flatMap f).length ≤ l.length * k
  | [], _ => by simp
  | a :: l, h => by
    have h1 := h a (List.mem_cons_self ..)
    have h2 := flatT_len (l := l) (fun x hx => h x (List.mem_cons_of_mem _ hx))
    have h3 : (l.length + 1) * k = l.length * k + k := Nat.succ_mul _ _
    simp only [List.flatMap_cons, List.length_append, List.length_cons]; omega
section
variable (t : Tp) (hN hR X Y : Nat → Int)
/-- A name's span that has a rank now. -/
def cN (q : Nat) (r : Ru) (u v : Nat) : Bool := decide (0 < hN (nameIx t r.head.toNat u v)) && ((X (nameIx t r.head.toNat u v) == 0) && (holT t hR q r.conj u v && ranT t Y q r.conj u v))
def gN (q : Nat) (r : Ru) (u v : Nat) : List Nat := if cN t hN hR X Y q r u v then [nameIx t r.head.toNat u v] else []
def aQ (q : Nat) (r : Ru) (u : Nat) : List Nat := (ups u (t.m + 1)).flatMap fun u => (ups u (t.m + 1)).flatMap (gN t hN hR X Y q r u)
def aL : Nat → List Ru → List Nat
  | _, [] => []
  | q, r :: l => aQ t hN hR X Y q r 0 ++ aL (q + 1) l
/-- A rest's span that has a rank now. -/
def cR (q c : Nat) (d : Cn) (p u v : Nat) : Bool := decide (0 < hR (restIx t q c p u v)) && ((Y (restIx t q c p u v) == 0) && stepT t X Y q c p d.seq u v)
def gR (q c : Nat) (d : Cn) (p u v : Nat) : List Nat := if cR t hR X Y q c d p u v then [restIx t q c p u v] else []
def bP (q c : Nat) (d : Cn) (p u : Nat) : List Nat := (ups u (t.m + 1)).flatMap fun u => (ups u (t.m + 1)).flatMap (gR t hR X Y q c d p u)
def bD (q c : Nat) (d : Cn) (p : Nat) : List Nat := (ups p (d.seq.length + 1)).flatMap fun p => bP t hR X Y q c d p 0
def bQ (q : Nat) : Nat → List Cn → List Nat
  | _, [] => []
  | c, d :: l => bD t hR X Y q c d 0 ++ bQ q (c + 1) l
def bL : Nat → List Ru → List Nat
  | _, [] => []
  | q, r :: l => bQ t hR X Y q 0 r.conj ++ bL (q + 1) l
end
section
variable {t : Tp} {hN hR X Y : Nat → Int}
theorem gN_len (q : Nat) (r : Ru) (u v : Nat) : (gN t hN hR X Y q r u v).length ≤ 1 := by unfold gN; split <;> simp
theorem gR_len (q c : Nat) (d : Cn) (p u v : Nat) : (gR t hR X Y q c d p u v).length ≤ 1 := by unfold gR; split <;> simp
theorem uv_len (hm : t.m ≤ 32) {g : Nat → Nat → List Nat} (hg : ∀ u v, (g u v).length ≤ 1) (u : Nat) : ((ups u (t.m + 1)).flatMap fun u => (ups u (t.m + 1)).flatMap (g u)).length ≤ 1089 := by
  have h1 : ∀ x, x ∈ ups u (t.m + 1) → ((ups x (t.m + 1)).flatMap (g x)).length ≤ 33 := fun x _ => by
    have := flatT_len (f := g x) (k := 1) (l := ups x (t.m + 1)) (fun v _ => hg x v)
    rw [ups_len] at this
    omega
  have h2 := flatT_len (k := 33) h1
  rw [ups_len] at h2
  have h3 : (t.m + 1 - u) * 33 ≤ 33 * 33 := Nat.mul_le_mul_right _ (by omega)
  omega
theorem aL_len (hm : t.m ≤ 32) : ∀ (l : List Ru) (q : Nat), (aL t hN hR X Y q l).length ≤ l.length * 1089
  | [], _ => by simp [aL]
  | r :: l, q => by
    have h1 := aL_len hm l (q + 1)
    have h2 : (aQ t hN hR X Y q r 0).length ≤ 1089 := uv_len hm (fun u v => gN_len q r u v) 0
    have h3 : (l.length + 1) * 1089 = l.length * 1089 + 1089 := Nat.succ_mul _ _
    simp only [aL, List.length_append, List.length_cons]; omega
theorem bD_len (hm : t.m ≤ 32) (q c : Nat) (d : Cn) : (bD t hR X Y q c d 0).length ≤ (d.seq.length + 1) * 1089 := by
  have := flatT_len (f := fun p => bP t hR X Y q c d p 0) (k := 1089) (l := ups 0 (d.seq.length + 1)) (fun p _ => uv_len hm (fun u v => gR_len q c d p u v) 0)
  rw [ups_len] at this
  exact this
theorem bQ_len (hm : t.m ≤ 32) (q : Nat) : ∀ (l : List Cn) (c : Nat), (bQ t hR X Y q c l).length ≤ (l.map fun d => d.seq.length + 1).sum * 1089
  | [], _ => by simp [bQ]
  | d :: l, c => by
    have h1 := bQ_len hm q l (c + 1)
    have h2 := bD_len (hR := hR) (X := X) (Y := Y) hm q c d
    simp only [bQ, List.length_append, List.map_cons, List.sum_cons]
    rw [Nat.add_mul]; omega
theorem bL_len (hm : t.m ≤ 32) : ∀ (l : List Ru) (q : Nat), (bL t hR X Y q l).length ≤ offR l l.length * 1089
  | [], _ => by simp [bL]
  | r :: l, q => by
    have h1 := bL_len hm l (q + 1)
    have h2 := bQ_len (hR := hR) (X := X) (Y := Y) hm q r.conj 0
    have e1 : offR (r :: l) (r :: l).length = offC r.conj r.conj.length + offR l l.length := by unfold offR; simp
    have e2 : offC r.conj r.conj.length = (r.conj.map fun d => d.seq.length + 1).sum := by unfold offC; rw [List.take_length]
    simp only [bL, List.length_append]
    rw [e1, Nat.add_mul, e2]; omega
theorem aL_drop {l : List Ru} {q : Nat} {r : Ru} (h : l[q]? = some r) : aL t hN hR X Y q (l.drop q) = aQ t hN hR X Y q r 0 ++ aL t hN hR X Y (q + 1) (l.drop (q + 1)) := by
  obtain ⟨hl, e⟩ := List.getElem?_eq_some_iff.1 h
  rw [List.drop_eq_getElem_cons hl, e]; rfl
theorem bL_drop {l : List Ru} {q : Nat} {r : Ru} (h : l[q]? = some r) : bL t hR X Y q (l.drop q) = bQ t hR X Y q 0 (r.conj.drop 0) ++ bL t hR X Y (q + 1) (l.drop (q + 1)) := by
  obtain ⟨hl, e⟩ := List.getElem?_eq_some_iff.1 h
  rw [List.drop_eq_getElem_cons hl, e]; rfl
theorem bQ_drop {q : Nat} {l : List Cn} {c : Nat} {d : Cn} (h : l[c]? = some d) : bQ t hR X Y q c (l.drop c) = bD t hR X Y q c d 0 ++ bQ t hR X Y q (c + 1) (l.drop (c + 1)) := by
  obtain ⟨hl, e⟩ := List.getElem?_eq_some_iff.1 h
  rw [List.drop_eq_getElem_cons hl, e]; rfl
theorem aL_mem {ix : Nat} : ∀ (l : List Ru) (s : Nat), ix ∈ aL t hN hR X Y s l ↔ ∃ q r u v, l[q]? = some r ∧ u ≤ v ∧ v ≤ t.m ∧ cN t hN hR X Y (s + q) r u v = true ∧ ix = nameIx t r.head.toNat u v
  | [], s => by simp [aL]
  | a :: l, s => by
    rw [aL, List.mem_append, aL_mem l (s + 1)]
    have e1 : ix ∈ aQ t hN hR X Y s a 0 ↔ ∃ u v, u ≤ v ∧ v ≤ t.m ∧ cN t hN hR X Y s a u v = true ∧ ix = nameIx t a.head.toNat u v := by
      unfold aQ gN
      simp only [List.mem_flatMap, ups_mem]
      constructor
      · rintro ⟨u, hu, v, hv, h⟩
        split at h
        · rename_i hc
          simp only [List.mem_singleton] at h
          exact ⟨u, v, hv.1, by omega, hc, h⟩
        · simp at h
      · rintro ⟨u, v, h1, h2, h3, h4⟩
        exact ⟨u, ⟨by omega, by omega⟩, v, ⟨h1, by omega⟩, by rw [if_pos h3]; simp [h4]⟩
    rw [e1]
    constructor
    · rintro (⟨u, v, h⟩ | ⟨q, r, u, v, h1, h2, h3, h4, h5⟩)
      · exact ⟨0, a, u, v, rfl, h.1, h.2.1, h.2.2.1, h.2.2.2⟩
      · exact ⟨q + 1, r, u, v, by simpa using h1, h2, h3, by rw [← h4]; congr 1; omega, h5⟩
    · rintro ⟨q, r, u, v, h1, h2, h3, h4, h5⟩
      cases q with
      | zero =>
        obtain rfl : a = r := by simpa using h1
        exact Or.inl ⟨u, v, h2, h3, h4, h5⟩
      | succ q => exact Or.inr ⟨q, r, u, v, by simpa using h1, h2, h3, by rw [← h4]; congr 1; omega, h5⟩
theorem bQ_mem {ix q : Nat} : ∀ (l : List Cn) (s : Nat), ix ∈ bQ t hR X Y q s l ↔ ∃ c d p u v, l[c]? = some d ∧ p ≤ d.seq.length ∧ u ≤ v ∧ v ≤ t.m ∧ cR t hR X Y q (s + c) d p u v = true ∧ ix = restIx t q (s + c) p u v
  | [], s => by simp [bQ]
  | a :: l, s => by
    rw [bQ, List.mem_append, bQ_mem l (s + 1)]
    have e1 : ix ∈ bD t hR X Y q s a 0 ↔ ∃ p u v, p ≤ a.seq.length ∧ u ≤ v ∧ v ≤ t.m ∧ cR t hR X Y q s a p u v = true ∧ ix = restIx t q s p u v := by
      unfold bD bP gR
      simp only [List.mem_flatMap, ups_mem]
      constructor
      · rintro ⟨p, hp, u, hu, v, hv, h⟩
        split at h
        · rename_i hc
          simp only [List.mem_singleton] at h
          exact ⟨p, u, v, by omega, hv.1, by omega, hc, h⟩
        · simp at h
      · rintro ⟨p, u, v, h0, h1, h2, h3, h4⟩
        exact ⟨p, ⟨by omega, by omega⟩, u, ⟨by omega, by omega⟩, v, ⟨h1, by omega⟩, by rw [if_pos h3]; simp [h4]⟩
    rw [e1]
    constructor
    · rintro (⟨p, u, v, h⟩ | ⟨c, d, p, u, v, h1, h2, h3, h4, h5, h6⟩)
      · exact ⟨0, a, p, u, v, rfl, h.1, h.2.1, h.2.2.1, h.2.2.2.1, h.2.2.2.2⟩
      · exact ⟨c + 1, d, p, u, v, by simpa using h1, h2, h3, h4, by rw [← h5]; congr 1; omega, by rw [h6]; congr 1; omega⟩
    · rintro ⟨c, d, p, u, v, h1, h2, h3, h4, h5, h6⟩
      cases c with
      | zero =>
        obtain rfl : a = d := by simpa using h1
        exact Or.inl ⟨p, u, v, h2, h3, h4, h5, h6⟩
      | succ c => exact Or.inr ⟨c, d, p, u, v, by simpa using h1, h2, h3, h4, by rw [← h5]; congr 1; omega, by rw [h6]; congr 1; omega⟩
theorem bL_mem {ix : Nat} : ∀ (l : List Ru) (s : Nat), ix ∈ bL t hR X Y s l ↔ ∃ q r c d p u v, l[q]? = some r ∧ r.conj[c]? = some d ∧ p ≤ d.seq.length ∧ u ≤ v ∧ v ≤ t.m ∧ cR t hR X Y (s + q) c d p u v = true ∧ ix = restIx t (s + q) c p u v
  | [], s => by simp [bL]
  | a :: l, s => by
    rw [bL, List.mem_append, bL_mem l (s + 1), bQ_mem]
    constructor
    · rintro (⟨c, d, p, u, v, h1, h2, h3, h4, h5, h6⟩ | ⟨q, r, c, d, p, u, v, h0, h1, h2, h3, h4, h5, h6⟩)
      · exact ⟨0, a, c, d, p, u, v, rfl, h1, h2, h3, h4, by rw [← h5]; congr 1; omega, by rw [h6]; congr 1; omega⟩
      · exact ⟨q + 1, r, c, d, p, u, v, by simpa using h0, h1, h2, h3, h4, by rw [← h5]; congr 1; omega, by rw [h6]; congr 1; omega⟩
    · rintro ⟨q, r, c, d, p, u, v, h0, h1, h2, h3, h4, h5, h6⟩
      cases q with
      | zero =>
        obtain rfl : a = r := by simpa using h0
        exact Or.inl ⟨c, d, p, u, v, h1, h2, h3, h4, by rw [← h5]; congr 1; omega, by rw [h6]; congr 1; omega⟩
      | succ q => exact Or.inr ⟨q, r, c, d, p, u, v, by simpa using h0, h1, h2, h3, h4, by rw [← h5]; congr 1; omega, by rw [h6]; congr 1; omega⟩
end
/-- Numbers in a row. -/
def nsV (q : List Nat) : List Value := q.map fun i => Value.int .i64 ((i : Nat) : Int)
theorem Tryz.infoIntT : (Tryz.prog.info? 3).map (fun i => (i.zero, i.size, i.bytes)) = some (some (.int .i64 0), 1, 8) := by kernel_rfl
theorem info_partsT {P : Program} {t : TypeId} {z : Option Value} {s b : Nat} (h : (P.info? t).map (fun i => (i.zero, i.size, i.bytes)) = some (z, s, b)) : ∃ i, P.info? t = some i ∧ i.zero = z ∧ i.size = s ∧ i.bytes = b := by
  cases hi : P.info? t with
  | none => rw [hi] at h; cases h
  | some i => rw [hi] at h; simp only [Option.map_some, Option.some.injEq, Prod.mk.injEq] at h; exact ⟨i, rfl, h.1, h.2.1, h.2.2⟩
theorem own_is {g n c k : Nat} (h : (Value.slice (some ⟨g, 0, none⟩) n c).ownBlock = some k) : k = g := by
  have h3 : some g = some k := h
  exact (Option.some.inj h3).symm
/-- All blocks but of numbers are as they were. -/
def KeepT (w w' : World) : Prop := ∀ (k : Nat) (cs : Array Value) (ty : TypeId) (fr : Nat × Nat), ty ≠ 3 → w.heap[k]? = some (.cells cs ty fr) → w'.heap[k]? = some (.cells cs ty fr)
theorem KeepT.of {w w' : World} (h : Below w.heap.size w w') : KeepT w w' := fun k cs ty fr _ hk => (h.block k (blk_ltT hk)).trans hk
theorem KeepT.trans {w w' w'' : World} (h : KeepT w w') (h' : KeepT w' w'') : KeepT w w'' := fun k cs ty fr hty hk => h' k cs ty fr hty (h k cs ty fr hty hk)
/-- Two rows of numbers, in blocks apart. -/
structure Rw2 (B : Nat) (w : World) (a b : Value) (la lb : List Nat) : Prop where
  oa : w.ownsRow B 3 1 a la.length (nsV la)
  ob : w.ownsRow B 3 1 b lb.length (nsV lb)
  ne : ∀ k, a.ownBlock = some k → b.ownBlock ≠ some k
section
variable {B : Nat} {w w' : World} {a b : Value} {la lb : List Nat}
theorem Rw2.symm (h : Rw2 B w a b la lb) : Rw2 B w b a lb la := ⟨h.ob, h.oa, fun k h1 h2 => h.ne k h2 h1⟩
theorem Rw2.any (h : Rw2 B w a b la lb) (hb : Below w.heap.size w w') : Rw2 B w' a b la lb := ⟨row_keep h.oa hb, row_keep h.ob hb, h.ne⟩
theorem Rw2.nil (B : Nat) (w : World) : Rw2 B w (.slice none 0 0) (.slice none 0 0) [] [] := ⟨World.ownsRow_nil _ _ _ _, World.ownsRow_nil _ _ _ _, fun k h => by cases h⟩
theorem Rw2.app (h : Rw2 B w a b la lb) (hB : B ≤ w.heap.size) (hl : la.length ≤ 100000000) (ix : Nat) :
    ∃ p c w', (Builtin.append_ #[44, 44] 44 #[a, .slice (some ⟨w.heap.size, 0, none⟩) 1 1]).run Tryz.prog (w.alloc (.cells #[.int .i64 (ix : Int)] 3)) = .ok (.slice p (la.length + 1) c) w' ∧ Rw2 B w' (.slice p (la.length + 1) c) b (la ++ [ix]) lb ∧ Below B w w' ∧ KeepT w w' := by
  obtain ⟨i0, hi0, hz0, hz1, hz2⟩ := info_partsT Tryz.infoIntT
  obtain ⟨gg, cap, w2, hrun, hown, hgrow, hat, _⟩ := run_append_lies (P := Tryz.prog) (w.alloc (.cells #[.int .i64 (ix : Int)] 3)) 44 44 B 3 i0 _ 1 8 Tryz.underlying44 hi0 hz0 hz1 hz2 rfl (by omega) a la.length (nsV la) (h.oa.alloc _) ⟨w.heap.size, 0, none⟩ 1 1 [.int .i64 (ix : Int)] rfl
    (World.news_of_block (cs := #[.int .i64 (ix : Int)]) (t := 3) (fr := (0, 0)) (heap_alloc_new w _)) (by intro u hu; simp at hu; subst hu; rfl) (by omega) (by unfold maxLen; omega) (by omega) (by simp; omega) (w.heap.size + 1) (by simp)
  refine ⟨_, _, _, hrun, ⟨?_, ?_, ?_⟩, ?_, fun k cs ty fr hty hk => ?_⟩
  · have e : (la ++ [ix]).length = la.length + 1 := by simp
    have e2 : nsV (la ++ [ix]) = nsV la ++ [.int .i64 (ix : Int)] := by simp [nsV]
    rw [e, e2]; exact hown
  · refine (h.ob.alloc (.cells #[.int .i64 (ix : Int)] 3)).kept hgrow ?_
    cases hbb : b.ownBlock with
    | none => exact Or.inl rfl
    | some k => exact Or.inr (fun e => h.ne k e.symm hbb)
  · intro k h1 h2
    have hk : k = gg := own_is h1
    subst hk
    rcases hat with hat | hat
    · exact h.ne _ hat h2
    · have := (h.ob.lt _ h2).2
      omega
  · exact (((Below.refl _ _).mono hB).alloc hB _).grown hgrow (Nat.le_trans hB (by simp)) (fun k hk => (h.oa.lt k hk).1)
  · have hkl := blk_ltT hk
    have h9 : (w.alloc (.cells #[.int .i64 (ix : Int)] 3)).heap[k]? = some (.cells cs ty fr) := ((bel1 w _).block k hkl).trans hk
    exact (hgrow.block k (blk_ltT h9) (fun e => own_neL h.oa hk (Ne.symm hty) e.symm)).trans h9
end
end Go.Proofs.YtejhdhlpdcfedaaGreat
/- The document's table: split, walked. -/
namespace Go.Proofs.YtejhdhlpdcfedaaGreat
set_option linter.unusedVariables false
open Go.ChangeShapes Go.WideShapes Go.ChangeAt Go.RowKit

theorem region_classT {P : Program} {id : Nat} {Q : Exit → Act → World → Prop} {a : Act} {w : World} {l : List Oper} {ι : Type} (f : ι → World) (hm : P.follows .mixedOrders = true) (hB : Region.lexB .any l.toArray = true) (h0 : ∃ n, w.drew = f n)
    (h : wpQuiet P l.toArray (fun w' => ∃ n, w' = f n) (fun a' => ∀ w', (∃ n, w' = f n) → Q .normal a' w') l a) : (Code.region id l.toArray true).wp P Q a w :=
  wp_region_quiet (C := fun w' => ∃ n, w' = f n) hm hB h0 (by simpa using h)
/-- The worlds of a property, as a family. -/
theorem family2T (I : World → Prop) (w : World) (h : I w) : ∃ (ι : Type) (f : ι → World) (n0 : ι), w = f n0 ∧ (∀ n, I (f n)) ∧ ∀ w', I w' → ∃ m, w' = f m :=
  ⟨{x // I x}, Subtype.val, ⟨w, h⟩, rfl, Subtype.property, fun w' h => ⟨⟨w', h⟩, rfl⟩⟩
theorem cells3T {w : World} {x0 x1 x2 : Value} {t : TypeId} {w' : World} (hb : Below (w.alloc (.cells #[x0, x1, x2] t)).heap.size (w.alloc (.cells #[x0, x1, x2] t)) w') : w'.cell? ⟨w.heap.size, 0, none⟩ = some x0 ∧ w'.cell? ⟨w.heap.size, 1, none⟩ = some x1 ∧ w'.cell? ⟨w.heap.size, 2, none⟩ = some x2 := by
  have h : ∀ j, (w.alloc (.cells #[x0, x1, x2] t)).cell? ⟨w.heap.size, j, none⟩ = (#[x0, x1, x2] : Array Value)[j]? := fun j => World.cell?_alloc_at _ _ _ _ rfl
  exact ⟨(hb.cell (p := ⟨_, _, none⟩) (by simp)).trans (h 0), (hb.cell (p := ⟨_, _, none⟩) (by simp)).trans (h 1), (hb.cell (p := ⟨_, _, none⟩) (by simp)).trans (h 2)⟩
set_option maxHeartbeats 2000000 in
set_option maxRecDepth 100000 in
theorem split_any (t : Tp) (tb xb yb q c p i j : Nat) (r : Ru) (d : Cn) (hX hY : Nat → Int) (w : World) {F : Nat → Prop} (h : TbIs w F tb t) (hI : IBk w xb t.nn hX) (hJ : IBk w yb t.rn hY) (hw : Tw t) (hr : t.g.rules[q]? = some r) (hd : r.conj[c]? = some d) (hpl : p ≤ d.seq.length) (hij : i ≤ j) (hj : j ≤ t.m) :
    Calls Tryz.prog 71 #[.pointer (some ⟨tb, 0, none⟩), .slice (some ⟨xb, 0, none⟩) t.nn t.nn, .slice (some ⟨yb, 0, none⟩) t.rn t.rn, .agg #[.int .i64 (q : Int), .int .i64 (c : Int), .int .i64 (p : Int)], .int .i64 (i : Int), .int .i64 (j : Int)] w fun e w' => e = .returned (.bool (stepT t hX hY q c p d.seq i j)) ∧ Hid (Below w.heap.size w w') := by
  have hm := hw.m
  have hm2 : j ≤ 32 := by omega
  have hplt := plc_lt (t := t) (q := q) (c := c) (p := p) ⟨r, d, hr, hd, hpl⟩
  have hz := hw.z
  have hpl1 : plc t q c (p + 1) = plc t q c p + 1 := by unfold plc; omega
  have hsy := hw.s r (List.mem_of_getElem? hr) d (List.mem_of_getElem? hd)
  have KSY : Hid (∀ w', Below w.heap.size w w' → Calls Tryz.prog 94 #[.pointer (some ⟨tb, 0, none⟩), .agg #[.int .i64 (q : Int), .int .i64 (c : Int), .int .i64 (p : Int)]] w' fun e w'' => e = .returned (.tuple #[.agg #[.int .i64 (symAt d.seq p).1.name, .int .i64 (symAt d.seq p).1.lo, .int .i64 (symAt d.seq p).1.hi], .bool (symAt d.seq p).2]) ∧ Hid (Below w'.heap.size w' w'')) := fun w' hb => symT_any t tb q c p r d w' (h.any hb) hr hd hpl
  have KBY : Hid (∀ nm lo up w', Below w.heap.size w w' → Calls Tryz.prog 95 #[.pointer (some ⟨tb, 0, none⟩), .agg #[.int .i64 nm, .int .i64 lo, .int .i64 up], .int .i64 (i : Int), .int .i64 (j : Int)] w' fun e w'' => e = .returned (.bool (decide (i < j) && inR (btsT t) ⟨nm, lo, up⟩ i)) ∧ Hid (Below w'.heap.size w' w'')) := fun nm lo up w' hb => byteT_any t tb nm lo up i j w' (h.any hb) hij hj hm
  obtain ⟨pl, hpe⟩ : ∃ pl, pl = plc t q c p := ⟨_, rfl⟩
  have KP : Hid (∀ w', Below w.heap.size w w' → Calls Tryz.prog 68 #[.pointer (some ⟨tb, 0, none⟩), .agg #[.int .i64 (q : Int), .int .i64 (c : Int), .int .i64 (p : Int)]] w' fun e w'' => e = .returned (.int .i64 (pl : Int)) ∧ Hid (Below w'.heap.size w' w'')) := fun w' hb => by
    rw [hpe]
    refine place_any t tb q c p w' (h.any hb) ⟨r, d, hr, hd, hpl⟩ ?_
    have h8 : plc t q c p = offR t.g.rules q + offC ((t.g.rules.getD q ⟨0, []⟩).conj) c + p := rfl
    omega
  have KS : Hid (∀ (a b : Nat) (w' : World), Below w.heap.size w w' → a ≤ b → b ≤ j → Calls Tryz.prog 43 #[.pointer (some ⟨tb, 0, none⟩), .int .i64 (a : Int), .int .i64 (b : Int)] w' fun e w'' => e = .returned (.int .i64 ((spn t a b : Nat) : Int)) ∧ w' = w'') := fun a b w' hb h2 h3 => span_any t tb a b w' (h.any hb) h2 (by omega) hm
  obtain ⟨wd, hwe⟩ : ∃ wd, wd = t.wide := ⟨_, rfl⟩
  obtain ⟨nn, hnn⟩ : ∃ nn, nn = t.nn := ⟨_, rfl⟩
  obtain ⟨rn, hrn⟩ : ∃ rn, rn = t.rn := ⟨_, rfl⟩
  have hwd := wide_le hm
  have hxw : (pl + 1) * wd ≤ 4001 * 1089 := Nat.mul_le_mul (by omega) (by rw [hwe]; exact hwd)
  obtain ⟨xw, hxe⟩ : ∃ xw, xw = (pl + 1) * wd := ⟨_, rfl⟩
  have hmul : ((pl : Int) + 1) * (wd : Int) = (xw : Int) := by rw [hxe]; push_cast; rfl
  rw [← hxe] at hxw
  have HRI : Hid (p < d.seq.length → ∀ a, a ≤ j → restIx t q c (p + 1) a j = xw + spn t a j ∧ restIx t q c (p + 1) a j < rn ∧ restIx t q c (p + 1) a j ≤ 5000000) := fun hlt a ha => by
    have h1 := plc_lt (t := t) (q := q) (c := c) (p := p + 1) ⟨r, d, hr, hd, hlt⟩
    have h2 := restIx_lt h1 ha hj
    have h3 := spn_lt (t := t) ha hj
    have h4 : restIx t q c (p + 1) a j = xw + spn t a j := by unfold restIx; rw [hpl1, ← hpe, ← hwe, ← hxe]
    rw [hrn]
    exact ⟨h4, h2, by omega⟩
  have HC4 : Hid (∀ w', Below w.heap.size w w' → w'.cell? ⟨tb, 4, none⟩ = some (.int .i64 (wd : Int))) := fun w' hb => by rw [hwe]; exact Lib.cell_of_heap (h.any hb).1 4
  have HCX : Hid (∀ (ix : Nat) (w' : World), Below w.heap.size w w' → ix < nn → w'.cell? ⟨xb, ix, none⟩ = some (.int .i64 (hX ix))) := fun ix w' hb hl => (hI.keep hb).cell (by rw [← hnn]; exact hl)
  have HCY : Hid (∀ (ix : Nat) (w' : World), Below w.heap.size w w' → ix < rn → w'.cell? ⟨yb, ix, none⟩ = some (.int .i64 (hY ix))) := fun ix w' hb hl => (hJ.keep hb).cell (by rw [← hrn]; exact hl)
  have hp4 : pl ≤ 4000 := by omega
  rw [← hnn, ← hrn]
  obtain ⟨X, hXX⟩ : ∃ X, X = w.alloc (.cells #[.int .i64 (q : Int), .int .i64 (c : Int), .int .i64 (p : Int)] 119) := ⟨_, rfl⟩
  have HXb : Hid (Below w.heap.size w X) := by rw [hXX]; exact bel1 _ _
  have hX0 : X.heap[w.heap.size]? = some (.cells #[.int .i64 (q : Int), .int .i64 (c : Int), .int .i64 (p : Int)] 119) := by rw [hXX]; exact heap_alloc_new w _
  have HBX : Hid (∀ w', Below X.heap.size X w' → w'.cell? ⟨w.heap.size, 0, none⟩ = some (.int .i64 (q : Int)) ∧ w'.cell? ⟨w.heap.size, 1, none⟩ = some (.int .i64 (c : Int)) ∧ w'.cell? ⟨w.heap.size, 2, none⟩ = some (.int .i64 (p : Int)) ∧ w.heap.size < w'.heap.size) := fun w' hb => by
    have h1 := (hb.block _ (blk_ltT hX0)).trans hX0
    exact ⟨Lib.cell_of_heap h1 0, Lib.cell_of_heap h1 1, Lib.cell_of_heap h1 2, blk_ltT h1⟩
  obtain ⟨x0, x1, x2, x3⟩ := HBX.out X (Below.refl _ _)
  cases hs : d.seq[p]? with
  | none =>
    have HV : Hid (stepT t hX hY q c p d.seq i j = decide (i = j)) := by show _ = _; unfold stepT; rw [hs]
    have HA : Hid (symAt d.seq p = (⟨0, 0, 0⟩, false)) := by show _ = _; unfold symAt; rw [hs]
    have KSY1 := KSY.out X HXb.out
    rw [HA.out] at KSY1
    rw [HV.out]
    clear h hI hJ hr hd hpl hsy hs hw hmul hpe hwe hnn hrn hxe hplt hpl1 hz hm
    by_cases e : i = j
    · have e1 : ((i : Int) == (j : Int)) = true := by rw [beq_iff_eq]; omega
      have e2 : decide (i = j) = true := decide_eq_true e
      rw [e2]
      clear e2 e
      go_enter Tryz.func71, Tryz.ntmps71
      go_upto_region 1 with fail
      rw [← hXX]
      clear hXX hX0
      go_wp2_with (first
        | (go_at_call 94; refine KSY1.mono ?_; rintro e w2 ⟨rfl, b2⟩; have HB2 : Hid (Below w.heap.size w w2) := HXb.out.trans (b2.out.mono HXb.out.size); clear x0 x1 x2 x3; obtain ⟨x0, x1, x2, x3⟩ := HBX.out _ (b2.out.alloc b2.out.size (.cells #[.int .i64 0, .int .i64 0, .int .i64 0] 57)))
        | (go_at_call 68; refine (KP.out _ (HB2.out.alloc HB2.out.size _)).mono ?_; rintro e w3 ⟨rfl, b3⟩; have HB3 : Hid (Below w.heap.size w w3) := (HB2.out.alloc HB2.out.size _).trans (b3.out.mono (HB2.out.alloc HB2.out.size _).size)))
      go_ret
      exact ⟨rfl, HB3⟩
    · have e1 : ((i : Int) == (j : Int)) = false := by rw [beq_eq_false_iff_ne]; omega
      have e2 : decide (i = j) = false := decide_eq_false e
      rw [e2]
      clear e2
      go_enter Tryz.func71, Tryz.ntmps71
      go_upto_region 1 with fail
      rw [← hXX]
      clear hXX hX0
      go_wp2_with (first
        | (go_at_call 94; refine KSY1.mono ?_; rintro e w2 ⟨rfl, b2⟩; have HB2 : Hid (Below w.heap.size w w2) := HXb.out.trans (b2.out.mono HXb.out.size); clear x0 x1 x2 x3; obtain ⟨x0, x1, x2, x3⟩ := HBX.out _ (b2.out.alloc b2.out.size (.cells #[.int .i64 0, .int .i64 0, .int .i64 0] 57)))
        | (go_at_call 68; refine (KP.out _ (HB2.out.alloc HB2.out.size _)).mono ?_; rintro e w3 ⟨rfl, b3⟩; have HB3 : Hid (Below w.heap.size w w3) := (HB2.out.alloc HB2.out.size _).trans (b3.out.mono (HB2.out.alloc HB2.out.size _).size)))
      go_ret
      exact ⟨rfl, HB3⟩
  | some s =>
    have HA : Hid (symAt d.seq p = (s, true)) := by show _ = _; unfold symAt; rw [hs]
    have KSY1 := KSY.out X HXb.out
    rw [HA.out] at KSY1
    have hps : p < d.seq.length := (List.getElem?_eq_some_iff.1 hs).1
    have hsn := hsy s (List.mem_of_getElem? hs)
    have HR2 := HRI.out hps
    by_cases hnm : s.name = -1
    · have HV : Hid (stepT t hX hY q c p d.seq i j = (decide (i < j) && inR (btsT t) s i && hasR t hY q c (p + 1) (i + 1) j)) := by show _ = _; unfold stepT; rw [hs]; simp only [if_pos hnm, Bool.and_assoc]
      rw [HV.out]
      obtain ⟨nm, lo, up⟩ := s
      simp only at hnm KSY1
      subst hnm
      obtain ⟨B, hB⟩ : ∃ B, B = (decide (i < j) && inR (btsT t) ⟨-1, lo, up⟩ i) := ⟨_, rfl⟩
      have KB1 := KBY.out (-1) lo up
      rw [← hB] at KB1 ⊢
      have HKB : Hid (∀ w', Below w.heap.size w w' → Calls Tryz.prog 95 #[.pointer (some ⟨tb, 0, none⟩), .agg #[.int .i64 (-1), .int .i64 lo, .int .i64 up], .int .i64 (i : Int), .int .i64 (j : Int)] w' fun e w'' => e = .returned (.bool B) ∧ Hid (Below w'.heap.size w' w'')) := KB1
      have hBi : B = true → i + 1 ≤ j := fun e => by rw [hB] at e; simp only [Bool.and_eq_true, decide_eq_true_eq] at e; omega
      clear h hI hJ hr hd hpl hsy hs hsn hB KB1 HV hw hpe hwe hnn hrn hxe hplt hpl1 hz hm
      obtain ⟨Z, hZ⟩ : ∃ Z, Z = hasR t hY q c (p + 1) (i + 1) j := ⟨_, rfl⟩
      have HZ : Hid (Z = hasR t hY q c (p + 1) (i + 1) j) := hZ
      rw [← hZ]
      clear hZ
      go_enter Tryz.func71, Tryz.ntmps71
      go_upto_region 1 with fail
      rw [← hXX]
      clear hXX hX0
      go_upto_region 6 with (first
        | (go_at_call 94; refine KSY1.mono ?_; rintro e w2 ⟨rfl, b2⟩; have HB2 : Hid (Below w.heap.size w w2) := HXb.out.trans (b2.out.mono HXb.out.size); clear x0 x1 x2 x3; obtain ⟨x0, x1, x2, x3⟩ := HBX.out _ (b2.out.alloc b2.out.size (.cells #[.int .i64 (-1), .int .i64 lo, .int .i64 up] 57)))
        | (go_at_call 68; refine (KP.out _ (HB2.out.alloc HB2.out.size _)).mono ?_; rintro e V ⟨rfl, b3⟩; have HB3 : Hid (Below w.heap.size w V) := (HB2.out.alloc HB2.out.size _).trans (b3.out.mono (HB2.out.alloc HB2.out.size _).size); clear x0 x1 x2 x3; obtain ⟨s0, s1, s2⟩ : V.cell? ⟨w2.heap.size, 0, none⟩ = some (.int .i64 (-1)) ∧ V.cell? ⟨w2.heap.size, 1, none⟩ = some (.int .i64 lo) ∧ V.cell? ⟨w2.heap.size, 2, none⟩ = some (.int .i64 up) := cells3T b3.out))
      obtain ⟨sb, hsb⟩ : ∃ sb, sb = w2.heap.size := ⟨_, rfl⟩
      rw [← hsb] at s0 s1 s2 ⊢
      clear hsb b2 b3 HB2
      cases B with
      | false =>
        clear hBi HR2 hmul
        have KA : ∀ w', Below V.heap.size V w' → Calls Tryz.prog 95 #[.pointer (some ⟨tb, 0, none⟩), .agg #[.int .i64 (-1), .int .i64 lo, .int .i64 up], .int .i64 (i : Int), .int .i64 (j : Int)] w' fun e w'' => e = .returned (.bool false) ∧ Below V.heap.size V w'' := fun w' hb => (HKB.out w' (HB3.out.trans (hb.mono HB3.out.size))).mono fun e w'' h => ⟨h.1, hb.trans (h.2.out.mono hb.size)⟩
        have HS3 : Hid (∀ w', Below V.heap.size V w' → w'.cell? ⟨sb, 0, none⟩ = some (.int .i64 (-1)) ∧ w'.cell? ⟨sb, 1, none⟩ = some (.int .i64 lo) ∧ w'.cell? ⟨sb, 2, none⟩ = some (.int .i64 up)) := fun w' hb =>
          ⟨(hb.cell (p := ⟨_, _, none⟩) (cellU_lt s0)).trans s0, (hb.cell (p := ⟨_, _, none⟩) (cellU_lt s1)).trans s1, (hb.cell (p := ⟨_, _, none⟩) (cellU_lt s2)).trans s2⟩
        clear s0 s1 s2
        obtain ⟨ι, fw, n0, hf0, hfw, hcl⟩ := family2T (fun w' => Below V.heap.size V w') V.drew (Below.refl _ _).drew
        have hne0 : Nonempty ι := ⟨n0⟩
        have z0 := fun n => (HS3.out (fw n) (hfw n)).1
        have z1 := fun n => (HS3.out (fw n) (hfw n)).2.1
        have z2 := fun n => (HS3.out (fw n) (hfw n)).2.2
        refine region_classT fw (by kernel_rfl) (by kernel_rfl) ⟨n0, hf0⟩ ?_
        clear hf0
        repeat (go_big_quiet_step ((go_at_call 95; (with_reducible refine (KA _ (hfw _)).mono ?_; rintro e w' ⟨rfl, hb⟩; exact ⟨rfl, hcl _ hb⟩))))
        refine wpQuiet_nil ?_
        intro w9 hw9
        obtain ⟨mm, rfl⟩ := hw9
        have H9 : Hid (Below w.heap.size w (fw mm)) := HB3.out.trans ((hfw mm).mono HB3.out.size)
        generalize fw mm = w9 at H9
        clear hcl hfw hne0 n0 z0 z1 z2
        clear fw
        go_wp2
        go_ret
        exact ⟨rfl, H9⟩
      | true =>
        have hij1 := hBi rfl
        obtain ⟨ix, hix⟩ : ∃ ix, ix = restIx t q c (p + 1) (i + 1) j := ⟨_, rfl⟩
        obtain ⟨sp, hsp⟩ : ∃ sp, sp = spn t (i + 1) j := ⟨_, rfl⟩
        obtain ⟨hr1, hr2, hr3⟩ := HR2 (i + 1) hij1
        rw [← hix] at hr1 hr2 hr3
        rw [← hsp] at hr1
        have hsum : (xw : Int) + (sp : Int) = (ix : Int) := by rw [hr1]; push_cast; rfl
        have hlt2 : (ix : Int) < (rn : Int) := by omega
        have hw1 : IntKind.i64.wrap (xw : Int) = (xw : Int) := by rw [IntKind.wrap_i64]; omega
        have hw2 : IntKind.i64.wrap (ix : Int) = (ix : Int) := by rw [IntKind.wrap_i64]; omega
        have hw3 : IntKind.i64.wrap ((i : Int) + 1) = (i : Int) + 1 := by rw [IntKind.wrap_i64]; omega
        obtain ⟨z, hze⟩ : ∃ z, z = hY ix := ⟨_, rfl⟩
        have HZ2 : Hid (Z = decide (0 < z)) := by show _ = _; rw [HZ.out, hze, hix]; rfl
        have KS1 : Hid (∀ w', Below V.heap.size V w' → Calls Tryz.prog 43 #[.pointer (some ⟨tb, 0, none⟩), .int .i64 ((i : Int) + 1), .int .i64 (j : Int)] w' fun e w'' => e = .returned (.int .i64 (sp : Int)) ∧ w' = w'') := fun w' hb => by
          have h9 := KS.out (i + 1) j w' (HB3.out.trans (hb.mono HB3.out.size)) hij1 (Nat.le_refl _)
          rw [show (((i + 1 : Nat)) : Int) = (i : Int) + 1 by omega, ← hsp] at h9
          exact h9
        have HSS : Hid (∀ w', Below V.heap.size V w' → Below V.heap.size V w' ∧ w'.cell? ⟨sb, 0, none⟩ = some (.int .i64 (-1)) ∧ w'.cell? ⟨sb, 1, none⟩ = some (.int .i64 lo) ∧ w'.cell? ⟨sb, 2, none⟩ = some (.int .i64 up) ∧ w'.cell? ⟨tb, 4, none⟩ = some (.int .i64 (wd : Int)) ∧ w'.cell? ⟨yb, ix, none⟩ = some (.int .i64 z)) := fun w' hb =>
          ⟨hb, (hb.cell (p := ⟨_, _, none⟩) (cellU_lt s0)).trans s0, (hb.cell (p := ⟨_, _, none⟩) (cellU_lt s1)).trans s1, (hb.cell (p := ⟨_, _, none⟩) (cellU_lt s2)).trans s2, HC4.out w' (HB3.out.trans (hb.mono HB3.out.size)), by rw [hze]; exact HCY.out ix w' (HB3.out.trans (hb.mono HB3.out.size)) hr2⟩
        have HKB2 : Hid (∀ w', Below V.heap.size V w' → Calls Tryz.prog 95 #[.pointer (some ⟨tb, 0, none⟩), .agg #[.int .i64 (-1), .int .i64 lo, .int .i64 up], .int .i64 (i : Int), .int .i64 (j : Int)] w' fun e w'' => e = .returned (.bool true) ∧ Hid (Below w'.heap.size w' w'')) := fun w' hb => HKB.out w' (HB3.out.trans (hb.mono HB3.out.size))
        clear hBi HR2 hix hsp hr1 hze HZ HKB
        go_region_held3 (fun w' => Below V.heap.size V w' ∧ w'.cell? ⟨sb, 0, none⟩ = some (.int .i64 (-1)) ∧ w'.cell? ⟨sb, 1, none⟩ = some (.int .i64 lo) ∧ w'.cell? ⟨sb, 2, none⟩ = some (.int .i64 up) ∧ w'.cell? ⟨tb, 4, none⟩ = some (.int .i64 (wd : Int)) ∧ w'.cell? ⟨yb, ix, none⟩ = some (.int .i64 z))
          ((refine HSS.out _ ?_; (repeat' (first | with_reducible assumption | with_reducible exact Below.refl _ _ | with_reducible apply Below.drew))))
          ((first
            | (go_at_call 43; refine (KS1.out _ (by repeat' (first | assumption | exact Below.refl _ _ | apply Below.drew))).mono ?_; rintro e w5 ⟨rfl, rfl⟩)
            | (go_at_call 95; refine (HKB2.out _ (by repeat' (first | assumption | exact Below.refl _ _ | apply Below.drew))).mono ?_; rintro e w7 ⟨rfl, b7⟩; have b8 : Below V.heap.size V w7 := Below.trans (b := V.drew) (Below.refl _ _).drew b7.out)))
        all_goals
          have HB8 : Hid (Below w.heap.size w w7) := HB3.out.trans (b8.mono HB3.out.size)
          go_wp2
          go_ret
          exact ⟨by rw [HZ2.out]; rfl, HB8⟩
    · have hsn2 := hsn.resolve_left hnm
      have HV : Hid (stepT t hX hY q c p d.seq i j = (List.range (j + 1)).any (hitT t hX hY q c p s.name.toNat i j)) := by show _ = _; unfold stepT; rw [hs]; simp only [if_neg hnm]
      rw [HV.out]
      obtain ⟨nm, lo, up⟩ := s
      simp only at hnm KSY1 hsn2 ⊢
      obtain ⟨x, rfl⟩ : ∃ x : Nat, nm = (x : Int) := ⟨nm.toNat, by omega⟩
      rw [Int.toNat_natCast]
      have hx : x < t.g.names.length := by omega
      have hx64 := hw.n
      have hyw0 : x * wd ≤ 64 * 1089 := Nat.mul_le_mul (by omega) (by rw [hwe]; exact hwd)
      obtain ⟨yw, hye⟩ : ∃ yw, yw = x * wd := ⟨_, rfl⟩
      have hmul2 : (x : Int) * (wd : Int) = (yw : Int) := by rw [hye]; push_cast; rfl
      rw [← hye] at hyw0
      have HNI : Hid (∀ k, i ≤ k → k ≤ j → nameIx t x i k = yw + spn t i k ∧ nameIx t x i k < nn ∧ nameIx t x i k ≤ 5000000) := fun k h1 h2 => by
        have h3 := nameIx_lt hx h1 (show k ≤ t.m by omega)
        have h4 := spn_lt (t := t) h1 (show k ≤ t.m by omega)
        have h5 : nameIx t x i k = yw + spn t i k := by unfold nameIx; rw [← hwe, ← hye]
        rw [hnn]
        exact ⟨h5, h3, by omega⟩
      obtain ⟨P, hP⟩ : ∃ P, P = hitT t hX hY q c p x i j := ⟨_, rfl⟩
      have HP : Hid (∀ k, P k = (decide (i ≤ k) && (decide (0 < hX (nameIx t x i k)) && decide (0 < hY (restIx t q c (p + 1) k j))))) := fun k => by rw [hP]; rfl
      rw [← hP]
      obtain ⟨R, hRe⟩ : ∃ R, R = (List.range (j + 1)).any P := ⟨_, rfl⟩
      have HR : Hid (R = (List.range (j + 1)).any P) := hRe
      have HRI2 : Hid (∀ a, a ≤ j → restIx t q c (p + 1) a j = xw + spn t a j ∧ restIx t q c (p + 1) a j < rn ∧ restIx t q c (p + 1) a j ≤ 5000000) := HR2
      rw [← hRe]
      have nn0 : ¬ (x : Int) < 0 := by omega
      clear h hI hJ hr hd hpl hsy hs hsn hsn2 hnm hP hRe hx HV hw hpe hwe hnn hrn hxe hye hplt hpl1 hz hm HR2
      go_enter Tryz.func71, Tryz.ntmps71
      go_upto_region 1 with fail
      rw [← hXX]
      clear hXX hX0
      go_upto_region 7 with (first
        | (go_at_call 94; refine KSY1.mono ?_; rintro e w2 ⟨rfl, b2⟩; have HB2 : Hid (Below w.heap.size w w2) := HXb.out.trans (b2.out.mono HXb.out.size); clear x0 x1 x2 x3; obtain ⟨x0, x1, x2, x3⟩ := HBX.out _ (b2.out.alloc b2.out.size (.cells #[.int .i64 (x : Int), .int .i64 lo, .int .i64 up] 57)))
        | (go_at_call 68; refine (KP.out _ (HB2.out.alloc HB2.out.size _)).mono ?_; rintro e V ⟨rfl, b3⟩; have HB3 : Hid (Below w.heap.size w V) := (HB2.out.alloc HB2.out.size _).trans (b3.out.mono (HB2.out.alloc HB2.out.size _).size); clear x0 x1 x2 x3; obtain ⟨s0, s1, s2⟩ : V.cell? ⟨w2.heap.size, 0, none⟩ = some (.int .i64 (x : Int)) ∧ V.cell? ⟨w2.heap.size, 1, none⟩ = some (.int .i64 lo) ∧ V.cell? ⟨w2.heap.size, 2, none⟩ = some (.int .i64 up) := cells3T b3.out))
      obtain ⟨sb, hsb⟩ : ∃ sb, sb = w2.heap.size := ⟨_, rfl⟩
      rw [← hsb] at s0 s1 s2 ⊢
      have HSB : Hid (∀ w', Below V.heap.size V w' → w'.cell? ⟨sb, 0, none⟩ = some (.int .i64 (x : Int))) := fun w' hb => (hb.cell (p := ⟨_, _, none⟩) (cellU_lt s0)).trans s0
      clear hsb b2 b3 HB2 s0 s1 s2
      go_wp2
      go_loopw [16] (fun z wr => ∃ k : Nat, i ≤ k ∧ k ≤ j + 1 ∧ z = .int .i64 k ∧ Hid ((List.range k).any P = false) ∧ Hid (Below V.heap.size V wr)) (fun z _ => j + 1 - (intOf z).toNat)
      case atStart =>
        refine ⟨i, Nat.le_refl _, by omega, rfl, ?_, Below.refl _ _⟩
        show _ = _
        rw [List.any_eq_false]
        intro k hk
        rw [HP.out k, decide_eq_false (by have := List.mem_range.1 hk; omega)]; simp
      case round =>
        obtain ⟨k, hik, hk, rfl, HF, HB⟩ := hrel
        have HBW : Hid (Below w.heap.size w wr) := HB3.out.trans (HB.out.mono HB3.out.size)
        have v0 := HSB.out wr HB.out
        by_cases hkj : k ≤ j
        · have hkj2 : (k : Int) ≤ (j : Int) := by omega
          have hPk := HP.out k
          rw [decide_eq_true hik, Bool.true_and] at hPk
          obtain ⟨i1, i2, i3⟩ := HNI.out k hik hkj
          obtain ⟨j1, j2, j3⟩ := HRI2.out k hkj
          have d0 := HCX.out _ wr HBW.out i2
          have d1 := HCY.out _ wr HBW.out j2
          have d4 := HC4.out wr HBW.out
          have K1 := KS.out i k
          have K2 := KS.out k j
          obtain ⟨xi, hxi⟩ : ∃ xi, xi = nameIx t x i k := ⟨_, rfl⟩
          obtain ⟨yi, hyi⟩ : ∃ yi, yi = restIx t q c (p + 1) k j := ⟨_, rfl⟩
          obtain ⟨s1, hs1⟩ : ∃ s1, s1 = spn t i k := ⟨_, rfl⟩
          obtain ⟨s2, hs2⟩ : ∃ s2, s2 = spn t k j := ⟨_, rfl⟩
          rw [← hxi] at hPk i1 i2 i3 d0
          rw [← hyi] at hPk j1 j2 j3 d1
          rw [← hs1] at i1 K1
          rw [← hs2] at j1 K2
          have hsum1 : (yw : Int) + (s1 : Int) = (xi : Int) := by rw [i1]; push_cast; rfl
          have hsum2 : (xw : Int) + (s2 : Int) = (yi : Int) := by rw [j1]; push_cast; rfl
          have hl1 : (xi : Int) < (nn : Int) := by omega
          have hl2 : (yi : Int) < (rn : Int) := by omega
          have hw1 : IntKind.i64.wrap (xw : Int) = (xw : Int) := by rw [IntKind.wrap_i64]; omega
          have hw2 : IntKind.i64.wrap (yw : Int) = (yw : Int) := by rw [IntKind.wrap_i64]; omega
          have hw3 : IntKind.i64.wrap (xi : Int) = (xi : Int) := by rw [IntKind.wrap_i64]; omega
          have hw4 : IntKind.i64.wrap (yi : Int) = (yi : Int) := by rw [IntKind.wrap_i64]; omega
          obtain ⟨Z1, hz1⟩ : ∃ Z1, Z1 = hX xi := ⟨_, rfl⟩
          obtain ⟨Z2, hz2⟩ : ∃ Z2, Z2 = hY yi := ⟨_, rfl⟩
          rw [← hz1] at hPk d0
          rw [← hz2] at hPk d1
          have HK1 : Hid (∀ w', Below wr.heap.size wr w' → Calls Tryz.prog 43 #[.pointer (some ⟨tb, 0, none⟩), .int .i64 (i : Int), .int .i64 (k : Int)] w' fun e w'' => e = .returned (.int .i64 (s1 : Int)) ∧ Below wr.heap.size wr w'') := fun w' hb => (K1 w' (HBW.out.trans (hb.mono HBW.out.size)) hik hkj).mono fun e w'' h => ⟨h.1, by rw [← h.2]; exact hb⟩
          have HK2 : Hid (∀ w', Below wr.heap.size wr w' → Calls Tryz.prog 43 #[.pointer (some ⟨tb, 0, none⟩), .int .i64 (k : Int), .int .i64 (j : Int)] w' fun e w'' => e = .returned (.int .i64 (s2 : Int)) ∧ Below wr.heap.size wr w'') := fun w' hb => (K2 w' (HBW.out.trans (hb.mono HBW.out.size)) hkj (Nat.le_refl _)).mono fun e w'' h => ⟨h.1, by rw [← h.2]; exact hb⟩
          have HSS : Hid (∀ w', Below wr.heap.size wr w' → w'.cell? ⟨sb, 0, none⟩ = some (.int .i64 (x : Int)) ∧ w'.cell? ⟨xb, xi, none⟩ = some (.int .i64 Z1) ∧ w'.cell? ⟨yb, yi, none⟩ = some (.int .i64 Z2) ∧ w'.cell? ⟨tb, 4, none⟩ = some (.int .i64 (wd : Int))) := fun w' hb => ⟨(hb.cell (p := ⟨_, _, none⟩) (cellU_lt v0)).trans v0, (hb.cell (p := ⟨_, _, none⟩) (cellU_lt d0)).trans d0, (hb.cell (p := ⟨_, _, none⟩) (cellU_lt d1)).trans d1, (hb.cell (p := ⟨_, _, none⟩) (cellU_lt d4)).trans d4⟩
          have HPT : Hid (P k = true → R = true) := fun e => by rw [HR.out, List.any_eq_true]; exact ⟨k, List.mem_range.2 (by omega), e⟩
          have HPF : Hid (P k = false → (List.range (k + 1)).any P = false) := fun e => by rw [List.range_succ, List.any_append, HF.out]; simp [e]
          clear hxi hyi hs1 hs2 i1 j1 K1 K2 hz1 hz2
          by_cases h1 : 0 < Z1
          · have e1 : decide (0 < Z1) = true := decide_eq_true h1
            rw [e1, Bool.true_and] at hPk
            by_cases h2 : 0 < Z2
            · have e2 : decide (0 < Z2) = true := decide_eq_true h2
              have HRT : Hid (R = true) := HPT.out (by rw [hPk, e2])
              clear hPk
              go_wp2
              obtain ⟨ι, fw, n0, hf0, hfw, hcl⟩ := family2T (fun w' => Below wr.heap.size wr w') wr.drew (Below.refl _ _).drew
              have hne0 : Nonempty ι := ⟨n0⟩
              have z0 := fun n => (HSS.out (fw n) (hfw n)).1
              have z1 := fun n => (HSS.out (fw n) (hfw n)).2.1
              have z2 := fun n => (HSS.out (fw n) (hfw n)).2.2.1
              have z3 := fun n => (HSS.out (fw n) (hfw n)).2.2.2
              refine region_classT fw (by kernel_rfl) (by kernel_rfl) ⟨n0, hf0⟩ ?_
              clear hf0 v0 d0 d1 d4
              repeat (go_big_quiet_step ((go_at_call 43; first | (with_reducible refine (HK1.out _ (hfw _)).mono ?_; rintro e w' ⟨rfl, hb⟩; exact ⟨rfl, hcl _ hb⟩) | (with_reducible refine (HK2.out _ (hfw _)).mono ?_; rintro e w' ⟨rfl, hb⟩; exact ⟨rfl, hcl _ hb⟩))))
              refine wpQuiet_nil ?_
              intro w9 hw9
              obtain ⟨mm, rfl⟩ := hw9
              have H9 : Hid (Below wr.heap.size wr (fw mm)) := hfw mm
              generalize fw mm = w9 at H9
              clear hcl hfw hne0 n0 z0 z1 z2 z3
              clear fw
              go_wp2
              go_ret
              exact ⟨by rw [HRT.out]; rfl, HBW.out.trans (H9.out.mono HBW.out.size)⟩
            · have e2 : decide (0 < Z2) = false := decide_eq_false h2
              have HF2 : Hid ((List.range (k + 1)).any P = false) := HPF.out (by rw [hPk, e2])
              clear hPk
              go_wp2
              obtain ⟨ι, fw, n0, hf0, hfw, hcl⟩ := family2T (fun w' => Below wr.heap.size wr w') wr.drew (Below.refl _ _).drew
              have hne0 : Nonempty ι := ⟨n0⟩
              have z0 := fun n => (HSS.out (fw n) (hfw n)).1
              have z1 := fun n => (HSS.out (fw n) (hfw n)).2.1
              have z2 := fun n => (HSS.out (fw n) (hfw n)).2.2.1
              have z3 := fun n => (HSS.out (fw n) (hfw n)).2.2.2
              refine region_classT fw (by kernel_rfl) (by kernel_rfl) ⟨n0, hf0⟩ ?_
              clear hf0 v0 d0 d1 d4
              repeat (go_big_quiet_step ((go_at_call 43; first | (with_reducible refine (HK1.out _ (hfw _)).mono ?_; rintro e w' ⟨rfl, hb⟩; exact ⟨rfl, hcl _ hb⟩) | (with_reducible refine (HK2.out _ (hfw _)).mono ?_; rintro e w' ⟨rfl, hb⟩; exact ⟨rfl, hcl _ hb⟩))))
              refine wpQuiet_nil ?_
              intro w9 hw9
              obtain ⟨mm, rfl⟩ := hw9
              have H9 : Hid (Below wr.heap.size wr (fw mm)) := hfw mm
              generalize fw mm = w9 at H9
              clear hcl hfw hne0 n0 z0 z1 z2 z3
              clear fw
              go_wp2
              go_roundw
              case rel => exact ⟨k + 1, by omega, by omega, by go_num, HF2, HB.out.trans (H9.out.mono HB.out.size)⟩
              case measure => simp [intOf]; omega
          · have e1 : decide (0 < Z1) = false := decide_eq_false h1
            rw [e1, Bool.false_and] at hPk
            have HF2 : Hid ((List.range (k + 1)).any P = false) := HPF.out hPk
            clear hPk
            go_wp2
            obtain ⟨ι, fw, n0, hf0, hfw, hcl⟩ := family2T (fun w' => Below wr.heap.size wr w') wr.drew (Below.refl _ _).drew
            have hne0 : Nonempty ι := ⟨n0⟩
            have z0 := fun n => (HSS.out (fw n) (hfw n)).1
            have z1 := fun n => (HSS.out (fw n) (hfw n)).2.1
            have z2 := fun n => (HSS.out (fw n) (hfw n)).2.2.1
            have z3 := fun n => (HSS.out (fw n) (hfw n)).2.2.2
            refine region_classT fw (by kernel_rfl) (by kernel_rfl) ⟨n0, hf0⟩ ?_
            clear hf0 v0 d0 d1 d4
            repeat (go_big_quiet_step ((go_at_call 43; first | (with_reducible refine (HK1.out _ (hfw _)).mono ?_; rintro e w' ⟨rfl, hb⟩; exact ⟨rfl, hcl _ hb⟩) | (with_reducible refine (HK2.out _ (hfw _)).mono ?_; rintro e w' ⟨rfl, hb⟩; exact ⟨rfl, hcl _ hb⟩))))
            refine wpQuiet_nil ?_
            intro w9 hw9
            obtain ⟨mm, rfl⟩ := hw9
            have H9 : Hid (Below wr.heap.size wr (fw mm)) := hfw mm
            generalize fw mm = w9 at H9
            clear hcl hfw hne0 n0 z0 z1 z2 z3
            clear fw
            go_wp2
            go_roundw
            case rel => exact ⟨k + 1, by omega, by omega, by go_num, HF2, HB.out.trans (H9.out.mono HB.out.size)⟩
            case measure => simp [intOf]; omega
        · obtain rfl : k = j + 1 := by omega
          have HRF : Hid (R = false) := by show _ = _; rw [HR.out]; exact HF.out
          have hnk : ¬ ((j + 1 : Nat) : Int) ≤ (j : Int) := by omega
          go_wp2
          go_ret
          exact ⟨by rw [HRF.out]; rfl, HBW⟩
end Go.Proofs.YtejhdhlpdcfedaaGreat
/- The document's table: round, walked. -/
namespace Go.Proofs.YtejhdhlpdcfedaaGreat
set_option linter.unusedVariables false
open Go.ChangeShapes Go.WideShapes Go.ChangeAt Go.RowKit

/-- An append that is known. -/
theorem wpList_run_appendT {P : Program} {w : World} {ops : Array Oper} {rest : List Oper} {o : Oper} {a : Act} {Q : Exit → Act → World → Prop} (hgd : o.guard = none) (s x : Operand) (t : TypeId)
    (ho : o.op = .call { callee := .builtin .append, args := #[s, x], argTypes := #[t, t] }) (v u : Value) (hs : a.eval s = v) (hx : a.eval x = u) {v' : Value} {w' : World} (hr : (Builtin.append_ #[t, t] o.type #[v, u]).run P w = .ok v' w') (h : wpList P ops Q rest (a.put o.dst v') w') :
    wpList P ops Q (o :: rest) a w := wpList_plain hgd fun K hK => by
  unfold Oper.wp execOp
  simp only [ho, resolve, invoke, builtin, Sem.run_bind, Sem.run_pure, Result.andThen_ok, List.map_toArray, List.map_cons, List.map_nil, hs, hx, hr]
  exact hK _ _ h
theorem len_le {l r A : List Nat} (h : l ++ r = A) : l.length ≤ A.length := by rw [← h]; simp
theorem mul_facts {x wd sp ix : Nat} (hx : x ≤ 4001) (hwd : wd ≤ 1089) (he : ix = x * wd + sp) (hsp : sp < wd) : ∃ xw : Nat, (x : Int) * (wd : Int) = (xw : Int) ∧ (xw : Int) + (sp : Int) = (ix : Int) ∧ IntKind.i64.wrap (xw : Int) = (xw : Int) ∧ IntKind.i64.wrap (ix : Int) = (ix : Int) := by
  have h1 : x * wd ≤ 4001 * 1089 := Nat.mul_le_mul hx hwd
  refine ⟨x * wd, by push_cast; rfl, by rw [he]; push_cast; rfl, ?_, ?_⟩
  · rw [IntKind.wrap_i64]; generalize x * wd = y at h1; omega
  · rw [IntKind.wrap_i64, he]; generalize x * wd = y at h1; omega
set_option maxHeartbeats 2000000 in
set_option maxRecDepth 100000 in
theorem round_any (t : Tp) (tb xb yb : Nat) (hN hR X Y : Nat → Int) (w : World) {F : Nat → Prop} (hT : Ts F tb t hN hR w) (hI : IBk w xb t.nn X) (hJ : IBk w yb t.rn Y) (hw : Tw t) (hr256 : t.g.rules.length ≤ 256) :
    Calls Tryz.prog 42 #[.pointer (some ⟨tb, 0, none⟩), .slice (some ⟨xb, 0, none⟩) t.nn t.nn, .slice (some ⟨yb, 0, none⟩) t.rn t.rn] w fun e w' => ∃ pa ca pb cb, e = .returned (.tuple #[.slice pa (aL t hN hR X Y 0 t.g.rules).length ca, .slice pb (bL t hR X Y 0 t.g.rules).length cb]) ∧ Hid (Rw2 w.heap.size w' (.slice pa (aL t hN hR X Y 0 t.g.rules).length ca) (.slice pb (bL t hR X Y 0 t.g.rules).length cb) (aL t hN hR X Y 0 t.g.rules) (bL t hR X Y 0 t.g.rules)) ∧ Hid (Below w.heap.size w w') := by
  obtain ⟨p2, c2, hv2⟩ : ∃ p c, t.v2 = .slice p t.g.rules.length c := by obtain ⟨vs, ⟨p, c, e, _⟩, _⟩ := hT.1.2.1.2; exact ⟨p, c, e⟩
  obtain ⟨L, hLe⟩ : ∃ L, L = t.g.rules := ⟨_, rfl⟩
  obtain ⟨A, hA⟩ : ∃ A, A = aL t hN hR X Y 0 t.g.rules := ⟨_, rfl⟩
  obtain ⟨B, hB⟩ : ∃ B, B = bL t hR X Y 0 t.g.rules := ⟨_, rfl⟩
  have hAl : A.length ≤ 300000 := by
    have := aL_len (t := t) (hN := hN) (hR := hR) (X := X) (Y := Y) hw.m t.g.rules 0
    rw [← hA] at this; omega
  have hBl : B.length ≤ 5000000 := by
    have h1 := bL_len (t := t) (hR := hR) (X := X) (Y := Y) hw.m t.g.rules 0
    have h2 : offR t.g.rules t.g.rules.length * 1089 ≤ 4000 * 1089 := Nat.mul_le_mul_right _ hw.z
    rw [← hB] at h1; omega
  rw [← hA, ← hB]
  obtain ⟨N, hNN⟩ : ∃ N, N = t.g.rules.length := ⟨_, rfl⟩
  have HNN : Hid (N = L.length) := by rw [hLe]; exact hNN
  rw [← hNN] at hv2 hr256
  obtain ⟨m, hmm⟩ : ∃ m, m = t.W.size := ⟨_, rfl⟩
  have HMM : Hid (m = t.m) := hmm
  have hm2 : m ≤ 32 := by rw [hmm]; exact hw.m
  obtain ⟨wd, hwe⟩ : ∃ wd, wd = t.wide := ⟨_, rfl⟩
  obtain ⟨nn, hnn⟩ : ∃ nn, nn = t.nn := ⟨_, rfl⟩
  obtain ⟨rn, hrn⟩ : ∃ rn, rn = t.rn := ⟨_, rfl⟩
  have hwd : wd ≤ 1089 := by rw [hwe]; exact wide_le hw.m
  have HTC : Hid (∀ w', Below w.heap.size w w' → w'.cell? ⟨tb, 2, none⟩ = some (.slice p2 N c2) ∧ w'.cell? ⟨tb, 3, none⟩ = some (.string t.W) ∧ w'.cell? ⟨tb, 4, none⟩ = some (.int .i64 (wd : Int)) ∧ w'.cell? ⟨tb, 5, none⟩ = some (.slice (some ⟨t.nb, 0, none⟩) nn nn) ∧ w'.cell? ⟨tb, 7, none⟩ = some (.slice (some ⟨t.rb, 0, none⟩) rn rn)) := fun w' hb => by
    have h9 := (hT.1.any hb).1
    refine ⟨?_, Lib.cell_of_heap h9 3, ?_, ?_, ?_⟩
    · rw [← hv2]; exact Lib.cell_of_heap h9 2
    · rw [hwe]; exact Lib.cell_of_heap h9 4
    · rw [hnn]; exact Lib.cell_of_heap h9 5
    · rw [hrn]; exact Lib.cell_of_heap h9 7
  have HRW : Hid (∀ (i : Nat) (w' : World), i < N → Below w.heap.size w w' → ∃ (x : Nat) (cs : List Cn) (g1 o1 : Nat) (p3 : Option Addr) (c3 : Nat), L[i]? = some ⟨(x : Int), cs⟩ ∧ p2 = some ⟨g1, o1, none⟩ ∧ w'.cell? ⟨g1, o1 + i * 2, none⟩ = some (.int .i64 (x : Int)) ∧ w'.cell? ⟨g1, o1 + i * 2 + 1, none⟩ = some (.slice p3 cs.length c3) ∧ IsCns w F (.slice p3 cs.length c3) cs ∧ x < t.g.names.length ∧ cs.length ≤ 9223372036854775807) := fun i w' hi hb => by
    obtain ⟨r, hr⟩ : ∃ r, t.g.rules[i]? = some r := ⟨_, List.getElem?_eq_getElem (by omega)⟩
    have hg2 := hT.1.2.1.2
    rw [hv2] at hg2
    obtain ⟨g1, o1, u1, hp1, a0, a1, hcn⟩ := hg2.row hr
    have hh := hw.h r (List.mem_of_getElem? hr)
    obtain ⟨hd, cs⟩ := r
    obtain ⟨x, rfl⟩ : ∃ x : Nat, hd = (x : Int) := ⟨hd.toNat, by simp only at hh; omega⟩
    obtain ⟨p3, c3, hu3, hl0⟩ := IsCns.lngU hcn
    subst hu3
    exact ⟨x, cs, g1, o1, p3, c3, by rw [hLe]; exact hr, hp1, (hb.cell (p := ⟨_, _, none⟩) (cellU_lt a0)).trans a0, (hb.cell (p := ⟨_, _, none⟩) (cellU_lt a1)).trans a1, hcn, by simp only at hh; omega, by unfold maxLen at hl0; simp only at hl0; omega⟩
  have HNC : Hid (∀ (x u v : Nat) (w' : World), x < t.g.names.length → u ≤ v → v ≤ t.m → Below w.heap.size w w' → nameIx t x u v < nn ∧ x ≤ 4001 ∧ nameIx t x u v = x * wd + spn t u v ∧ spn t u v < wd ∧ w'.cell? ⟨t.nb, nameIx t x u v, none⟩ = some (.int .i64 (hN (nameIx t x u v))) ∧ w'.cell? ⟨xb, nameIx t x u v, none⟩ = some (.int .i64 (X (nameIx t x u v)))) := fun x u v w' hx huv hv hb => by
    have h1 := nameIx_lt hx huv hv
    rw [hnn, hwe]
    exact ⟨h1, by have := hw.n; omega, rfl, spn_lt huv hv, (hT.2.1.keep hb).cell h1, (hI.keep hb).cell h1⟩
  have HRC : Hid (∀ (q c p u v : Nat) (r : Ru) (d : Cn) (w' : World), L[q]? = some r → r.conj[c]? = some d → p ≤ d.seq.length → u ≤ v → v ≤ t.m → Below w.heap.size w w' → restIx t q c p u v < rn ∧ plc t q c p ≤ 4001 ∧ restIx t q c p u v = plc t q c p * wd + spn t u v ∧ spn t u v < wd ∧ w'.cell? ⟨t.rb, restIx t q c p u v, none⟩ = some (.int .i64 (hR (restIx t q c p u v))) ∧ w'.cell? ⟨yb, restIx t q c p u v, none⟩ = some (.int .i64 (Y (restIx t q c p u v)))) := fun q c p u v r d w' hr hd hp huv hv hb => by
    rw [hLe] at hr
    have h0 := plc_lt (t := t) (q := q) (c := c) (p := p) ⟨r, d, hr, hd, hp⟩
    have h1 := restIx_lt h0 huv hv
    rw [hrn, hwe]
    exact ⟨h1, by have := hw.z; omega, rfl, spn_lt huv hv, (hT.2.2.keep hb).cell h1, (hJ.keep hb).cell h1⟩
  have KS : Hid (∀ (u v : Nat) (w' : World), Below w.heap.size w w' → u ≤ v → v ≤ t.m → Calls Tryz.prog 43 #[.pointer (some ⟨tb, 0, none⟩), .int .i64 (u : Int), .int .i64 (v : Int)] w' fun e w'' => e = .returned (.int .i64 ((spn t u v : Nat) : Int)) ∧ w' = w'') := fun u v w' hb h2 h3 => span_any t tb u v w' (hT.1.any hb) h2 h3 hw.m
  have KP : Hid (∀ (q c p : Nat) (r : Ru) (d : Cn) (w' : World), Below w.heap.size w w' → L[q]? = some r → r.conj[c]? = some d → p ≤ d.seq.length → Calls Tryz.prog 68 #[.pointer (some ⟨tb, 0, none⟩), .agg #[.int .i64 (q : Int), .int .i64 (c : Int), .int .i64 (p : Int)]] w' fun e w'' => e = .returned (.int .i64 ((plc t q c p : Nat) : Int)) ∧ Hid (Below w'.heap.size w' w'')) := fun q c p r d w' hb h1 h2 h3 => by
    rw [hLe] at h1
    refine place_any t tb q c p w' (hT.1.any hb) ⟨r, d, h1, h2, h3⟩ ?_
    have h9 := plc_lt (t := t) (q := q) (c := c) (p := p) ⟨r, d, h1, h2, h3⟩
    have h8 : plc t q c p = offR t.g.rules q + offC ((t.g.rules.getD q ⟨0, []⟩).conj) c + p := rfl
    have := hw.z
    omega
  have KO : Hid (∀ (q u v : Nat) (r : Ru) (w' : World), Below w.heap.size w w' → L[q]? = some r → u ≤ v → v ≤ t.m → Calls Tryz.prog 69 #[.pointer (some ⟨tb, 0, none⟩), .int .i64 (q : Int), .int .i64 (u : Int), .int .i64 (v : Int)] w' fun e w'' => e = .returned (.bool (holT t hR q r.conj u v)) ∧ Hid (Below w'.heap.size w' w'')) := fun q u v r w' hb h1 h2 h3 => by
    rw [hLe] at h1
    exact holdsT_any t tb q u v r hR w' (hT.1.any hb) (hT.2.2.keep hb) h1 hw.z h2 h3 hw.m
  have KK : Hid (∀ (q u v : Nat) (r : Ru) (w' : World), Below w.heap.size w w' → L[q]? = some r → u ≤ v → v ≤ t.m → Calls Tryz.prog 70 #[.pointer (some ⟨tb, 0, none⟩), .slice (some ⟨yb, 0, none⟩) rn rn, .int .i64 (q : Int), .int .i64 (u : Int), .int .i64 (v : Int)] w' fun e w'' => e = .returned (.bool (ranT t Y q r.conj u v)) ∧ Hid (Below w'.heap.size w' w'')) := fun q u v r w' hb h1 h2 h3 => by
    rw [hLe] at h1
    rw [hrn]
    exact rankedT_any t tb yb q u v r Y w' (hT.1.any hb) (hJ.keep hb) h1 hw.z h2 h3 hw.m
  have KX : Hid (∀ (q c p u v : Nat) (r : Ru) (d : Cn) (w' : World), Below w.heap.size w w' → L[q]? = some r → r.conj[c]? = some d → p ≤ d.seq.length → u ≤ v → v ≤ t.m → Calls Tryz.prog 71 #[.pointer (some ⟨tb, 0, none⟩), .slice (some ⟨xb, 0, none⟩) nn nn, .slice (some ⟨yb, 0, none⟩) rn rn, .agg #[.int .i64 (q : Int), .int .i64 (c : Int), .int .i64 (p : Int)], .int .i64 (u : Int), .int .i64 (v : Int)] w' fun e w'' => e = .returned (.bool (stepT t X Y q c p d.seq u v)) ∧ Hid (Below w'.heap.size w' w'')) := fun q c p u v r d w' hb h1 h2 h3 h4 h5 => by
    rw [hLe] at h1
    rw [hrn, hnn]
    exact split_any t tb xb yb q c p u v r d X Y w' (hT.1.any hb) (hI.keep hb) (hJ.keep hb) hw h1 h2 h3 h4 h5
  have HA0 : Hid (A = aL t hN hR X Y 0 L) := by rw [hLe]; exact hA
  have HB0 : Hid (B = bL t hR X Y 0 L) := by rw [hLe]; exact hB
  have hsz : t.W.size = m := hmm.symm
  obtain ⟨t2, t3, -, -, -⟩ := HTC.out w (Below.refl _ _)
  rw [← hnn, ← hrn]
  clear hT hI hJ hw hv2 hLe hA hB hNN hmm hwe hnn hrn
  go_enter Tryz.func42, Tryz.ntmps42
  go_upto_region 3 with fail
  clear hsz t2 t3
  go_wp2
  go_loopw [8, 9, 11] (fun a b z wr => ∃ (i : Nat) (la lb : List Nat), i ≤ N ∧ z = .int .i64 i ∧ Hid (Rw2 w.heap.size wr a b la lb) ∧ Hid (Below w.heap.size w wr) ∧ Hid (la ++ aL t hN hR X Y i (L.drop i) = A) ∧ Hid (lb ++ bL t hR X Y i (L.drop i) = B)) (fun _ _ z _ => N - (intOf z).toNat)
  case atStart => exact ⟨0, [], [], Nat.zero_le _, rfl, Rw2.nil _ _, Below.refl _ _, HA0.out.symm, HB0.out.symm⟩
  case round =>
    obtain ⟨i, la, lb, hi, rfl, HW, HB, HE, HF⟩ := hrel
    obtain ⟨pa, ca, hav⟩ := row_slice HW.out.oa
    obtain ⟨pb, cb, hbv⟩ := row_slice HW.out.ob
    subst hav hbv
    obtain ⟨t2, -, -, -, -⟩ := HTC.out wr HB.out
    by_cases hlt : i < N
    · obtain ⟨x, cs, g1, o1, p3, c3, hr, hp, a0, a1, hcn, hxn, hc9⟩ := HRW.out i wr hlt HB.out
      subst hp
      have HR1 : Hid (L[i]? = some ⟨(x : Int), cs⟩) := hr
      have HCN : Hid (IsCns w F (.slice p3 cs.length c3) cs) := hcn
      have HXN : Hid (x < t.g.names.length) := hxn
      obtain ⟨C, hC⟩ : ∃ C, C = cs.length := ⟨_, rfl⟩
      have HCL : Hid (C = cs.length) := hC
      rw [← hC] at a1 HCN hc9
      have HE2 : Hid (la ++ (aQ t hN hR X Y i ⟨(x : Int), cs⟩ 0 ++ aL t hN hR X Y (i + 1) (L.drop (i + 1))) = A) := by
        show _ = _
        rw [← aL_drop hr]; exact HE.out
      have HF2 : Hid (lb ++ (bQ t hR X Y i 0 (cs.drop 0) ++ bL t hR X Y (i + 1) (L.drop (i + 1))) = B) := by
        show _ = _
        have := bL_drop (t := t) (hR := hR) (X := X) (Y := Y) hr
        simp only at this
        rw [← this]; exact HF.out
      obtain ⟨RA, hRA⟩ : ∃ RA, RA = aL t hN hR X Y (i + 1) (L.drop (i + 1)) := ⟨_, rfl⟩
      have HRA : Hid (RA = aL t hN hR X Y (i + 1) (L.drop (i + 1))) := hRA
      obtain ⟨RB, hRB⟩ : ∃ RB, RB = bL t hR X Y (i + 1) (L.drop (i + 1)) := ⟨_, rfl⟩
      have HRB : Hid (RB = bL t hR X Y (i + 1) (L.drop (i + 1))) := hRB
      rw [← hRA] at HE2
      rw [← hRB] at HF2
      obtain ⟨V, hV⟩ : ∃ V, V = wr.alloc (.cells #[.int .i64 (x : Int), .slice p3 C c3] 40) := ⟨_, rfl⟩
      have hVb : Below wr.heap.size wr V := by rw [hV]; exact bel1 _ _
      have hV0 : V.heap[wr.heap.size]? = some (.cells #[.int .i64 (x : Int), .slice p3 C c3] 40) := by rw [hV]; exact heap_alloc_new wr _
      obtain ⟨nbx, hnb⟩ : ∃ nbx, nbx = wr.heap.size := ⟨_, rfl⟩
      rw [← hnb] at hV0
      have HV0 : Hid (V.heap[nbx]? = some (.cells #[.int .i64 (x : Int), .slice p3 C c3] 40)) := hV0
      have HWV : Hid (Rw2 w.heap.size V (.slice pa la.length ca) (.slice pb lb.length cb) la lb) := HW.out.any hVb
      have HBV : Hid (Below w.heap.size w V) := HB.out.trans (hVb.mono HB.out.size)
      clear hr hcn hxn hC hRA hRB hVb hV0 HW HB HE HF
      go_upto_region 7 with fail
      rw [← hV, ← hnb]
      clear hV hnb a0 a1 t2
      go_wp2
      obtain ⟨LB, hLB⟩ : ∃ LB, LB = lb.length := ⟨_, rfl⟩
      rw [← hLB] at HWV ⊢
      have HLB : Hid (LB = lb.length) := hLB
      clear hLB
      go_loopw [8, 13] (fun a z wr => ∃ (u : Nat) (l : List Nat), u ≤ m + 1 ∧ z = .int .i64 u ∧ Hid (Rw2 w.heap.size wr a (.slice pb LB cb) l lb) ∧ Hid (Below w.heap.size w wr) ∧ Hid (KeepT V wr) ∧ Hid (l ++ (aQ t hN hR X Y i ⟨(x : Int), cs⟩ u ++ RA) = A)) (fun _ z _ => m + 1 - (intOf z).toNat)
      case atStart => exact ⟨0, la, Nat.zero_le _, rfl, HWV, HBV, fun _ _ _ _ _ h => h, HE2⟩
      case round =>
        clear HWV HBV HE2
        obtain ⟨u, l, hu, rfl, HW, HB, HKV, HE⟩ := hrel
        obtain ⟨qa, ka, hav⟩ := row_slice HW.out.oa
        subst hav
        by_cases hlu : u ≤ m
        · have hlu2 : (u : Int) ≤ (m : Int) := by omega
          have HE2 : Hid (l ++ ((ups u (t.m + 1)).flatMap (gN t hN hR X Y i ⟨(x : Int), cs⟩ u) ++ (aQ t hN hR X Y i ⟨(x : Int), cs⟩ (u + 1) ++ RA)) = A) := by
            show _ = _
            have h9 : aQ t hN hR X Y i ⟨(x : Int), cs⟩ u = (ups u (t.m + 1)).flatMap (gN t hN hR X Y i ⟨(x : Int), cs⟩ u) ++ aQ t hN hR X Y i ⟨(x : Int), cs⟩ (u + 1) := by
              unfold aQ
              rw [ups_lt (show u < t.m + 1 by rw [← HMM.out]; omega), List.flatMap_cons, ← ups_lt (show u < t.m + 1 by rw [← HMM.out]; omega)]
            rw [← List.append_assoc (List.flatMap _ _), ← h9]; exact HE.out
          obtain ⟨RU, hRU⟩ : ∃ RU, RU = aQ t hN hR X Y i ⟨(x : Int), cs⟩ (u + 1) ++ RA := ⟨_, rfl⟩
          have HRU : Hid (RU = aQ t hN hR X Y i ⟨(x : Int), cs⟩ (u + 1) ++ RA) := hRU
          rw [← hRU] at HE2
          clear hRU HE
          go_wp2
          go_loopw [8, 14] (fun a z wr => ∃ (v : Nat) (l : List Nat), u ≤ v ∧ v ≤ m + 1 ∧ z = .int .i64 v ∧ Hid (Rw2 w.heap.size wr a (.slice pb LB cb) l lb) ∧ Hid (Below w.heap.size w wr) ∧ Hid (KeepT V wr) ∧ Hid (l ++ ((ups v (t.m + 1)).flatMap (gN t hN hR X Y i ⟨(x : Int), cs⟩ u) ++ RU) = A)) (fun _ z _ => m + 1 - (intOf z).toNat)
          case atStart => exact ⟨u, l, Nat.le_refl _, hu, rfl, HW, HB, HKV, HE2⟩
          case round =>
            clear HW HB HKV HE2
            obtain ⟨v, l, huv, hv, rfl, HW, HB, HKV, HE⟩ := hrel
            obtain ⟨qa, ka, hav⟩ := row_slice HW.out.oa
            subst hav
            by_cases hlv : v ≤ m
            · have hlv2 : (v : Int) ≤ (m : Int) := by omega
              have hvt : v ≤ t.m := by rw [← HMM.out]; exact hlv
              have HE2 : Hid (l ++ (gN t hN hR X Y i ⟨(x : Int), cs⟩ u v ++ ((ups (v + 1) (t.m + 1)).flatMap (gN t hN hR X Y i ⟨(x : Int), cs⟩ u) ++ RU)) = A) := by
                show _ = _
                have := HE.out
                rw [ups_lt (show v < t.m + 1 by omega), List.flatMap_cons, List.append_assoc] at this
                exact this
              have hb0 := HKV.out nbx _ _ _ (by decide) HV0.out
              obtain ⟨k1, k2, k3, k4, k5, k6⟩ := HNC.out x u v wr HXN.out huv hvt HB.out
              obtain ⟨ix, hix⟩ : ∃ ix, ix = nameIx t x u v := ⟨_, rfl⟩
              obtain ⟨sp, hsp⟩ : ∃ sp, sp = spn t u v := ⟨_, rfl⟩
              rw [← hix, ← hsp] at k3
              rw [← hix] at k1 k5 k6
              rw [← hsp] at k4
              obtain ⟨xw, hmul, hsum, hw1, hw2⟩ := mul_facts k2 hwd k3 k4
              obtain ⟨n1, hn1⟩ : ∃ n1, n1 = hN ix := ⟨_, rfl⟩
              obtain ⟨x1, hx1⟩ : ∃ x1, x1 = X ix := ⟨_, rfl⟩
              have HGN : Hid (gN t hN hR X Y i ⟨(x : Int), cs⟩ u v = if (decide (0 < n1) && ((x1 == 0) && (holT t hR i cs u v && ranT t Y i cs u v))) = true then [ix] else []) := by
                show _ = _
                rw [hn1, hx1, hix]; rfl
              have HXA : Hid (∀ w', Below wr.heap.size wr w' → w'.cell? ⟨nbx, 0, none⟩ = some (.int .i64 (x : Int)) ∧ w'.cell? ⟨tb, 4, none⟩ = some (.int .i64 (wd : Int)) ∧ w'.cell? ⟨tb, 5, none⟩ = some (.slice (some ⟨t.nb, 0, none⟩) nn nn) ∧ w'.cell? ⟨t.nb, ix, none⟩ = some (.int .i64 n1) ∧ w'.cell? ⟨xb, ix, none⟩ = some (.int .i64 x1)) := fun w' hb => by
                obtain ⟨-, -, d4, d5, -⟩ := HTC.out w' (HB.out.trans (hb.mono HB.out.size))
                refine ⟨Lib.cell_of_heap ((hb.block _ (blk_ltT hb0)).trans hb0) 0, d4, d5, ?_, ?_⟩
                · rw [hn1]; exact (hb.cell (p := ⟨_, _, none⟩) (cellU_lt k5)).trans k5
                · rw [hx1]; exact (hb.cell (p := ⟨_, _, none⟩) (cellU_lt k6)).trans k6
              have KS1 : Hid (∀ w', Below wr.heap.size wr w' → Calls Tryz.prog 43 #[.pointer (some ⟨tb, 0, none⟩), .int .i64 (u : Int), .int .i64 (v : Int)] w' fun e w'' => e = .returned (.int .i64 (sp : Int)) ∧ Below wr.heap.size wr w'') := fun w' hb => (KS.out u v w' (HB.out.trans (hb.mono HB.out.size)) huv hvt).mono fun e w'' h => ⟨by rw [hsp]; exact h.1, by rw [← h.2]; exact hb⟩
              have hlt2 : (ix : Int) < (nn : Int) := by omega
              have KO1 : Hid (∀ w', Below wr.heap.size wr w' → Calls Tryz.prog 69 #[.pointer (some ⟨tb, 0, none⟩), .int .i64 (i : Int), .int .i64 (u : Int), .int .i64 (v : Int)] w' fun e w'' => e = .returned (.bool (holT t hR i cs u v)) ∧ Hid (Below w'.heap.size w' w'')) := fun w' hb => KO.out i u v _ w' (HB.out.trans (hb.mono HB.out.size)) HR1.out huv hvt
              have KK1 : Hid (∀ w', Below wr.heap.size wr w' → Calls Tryz.prog 70 #[.pointer (some ⟨tb, 0, none⟩), .slice (some ⟨yb, 0, none⟩) rn rn, .int .i64 (i : Int), .int .i64 (u : Int), .int .i64 (v : Int)] w' fun e w'' => e = .returned (.bool (ranT t Y i cs u v)) ∧ Hid (Below w'.heap.size w' w'')) := fun w' hb => KK.out i u v _ w' (HB.out.trans (hb.mono HB.out.size)) HR1.out huv hvt
              clear hb0 k2 k3 k4 k5 k6 hix hsp hn1 hx1 HE hvt
              go_upto_region 13 with fail
              obtain ⟨ι, fw, n0, hf0, hfw, hcl⟩ := family2T (fun w' => Below wr.heap.size wr w') wr.drew (Below.refl _ _).drew
              have hne0 : Nonempty ι := ⟨n0⟩
              have z0 := fun n => (HXA.out (fw n) (hfw n)).1
              have z1 := fun n => (HXA.out (fw n) (hfw n)).2.1
              refine region_classT fw (by kernel_rfl) (by kernel_rfl) ⟨n0, hf0⟩ ?_
              clear hf0
              repeat (go_big_quiet_step ((go_at_call 43; (with_reducible refine (KS1.out _ (hfw _)).mono ?_; rintro e w' ⟨rfl, hb⟩; exact ⟨rfl, hcl _ hb⟩))))
              refine wpQuiet_nil ?_
              intro w9 hw9
              obtain ⟨mm, rfl⟩ := hw9
              have H9 : Hid (Below wr.heap.size wr (fw mm)) := hfw mm
              generalize fw mm = w9 at H9
              clear hcl hfw hne0 n0 z0 z1
              clear fw
              obtain ⟨-, -, y5, yn, yx⟩ := HXA.out w9 H9.out
              have HNOT : Hid ((decide (0 < n1) && ((x1 == 0) && (holT t hR i cs u v && ranT t Y i cs u v))) = false → l ++ ((ups (v + 1) (t.m + 1)).flatMap (gN t hN hR X Y i ⟨(x : Int), cs⟩ u) ++ RU) = A) := fun e => by
                have := HE2.out
                rw [HGN.out, e] at this
                simpa using this
              have HYES : Hid ((decide (0 < n1) && ((x1 == 0) && (holT t hR i cs u v && ranT t Y i cs u v))) = true → (l ++ [ix]) ++ ((ups (v + 1) (t.m + 1)).flatMap (gN t hN hR X Y i ⟨(x : Int), cs⟩ u) ++ RU) = A) := fun e => by
                have := HE2.out
                rw [HGN.out, e] at this
                simpa using this
              have HLL : Hid (l.length ≤ 300000) := Nat.le_trans (len_le HE2.out) hAl
              have HNX : Hid (∀ w', Below wr.heap.size wr w' → Rw2 w.heap.size w' (.slice qa l.length ka) (.slice pb LB cb) l lb ∧ Below w.heap.size w w' ∧ KeepT V w') := fun w' hb => ⟨HW.out.any hb, HB.out.trans (hb.mono HB.out.size), HKV.out.trans (KeepT.of hb)⟩
              clear HE2 HGN HXA KS1 hmul hsum hw1 hw2 HW HB HKV
              by_cases c1 : 0 < n1
              · have e1 : decide (0 < n1) = true := decide_eq_true c1
                rw [e1, Bool.true_and] at HNOT HYES
                by_cases c2 : x1 = 0
                · subst c2
                  rw [show ((0 : Int) == 0) = true from rfl, Bool.true_and] at HNOT HYES
                  cases ho : holT t hR i cs u v with
                  | true =>
                    rw [ho] at KO1
                    rw [ho, Bool.true_and] at HNOT HYES
                    cases hra : ranT t Y i cs u v with
                    | true =>
                      rw [hra] at KK1
                      have HE3 := HYES.out hra
                      have HE4 : Hid ((l ++ [ix]) ++ ((ups (v + 1) (t.m + 1)).flatMap (gN t hN hR X Y i ⟨(x : Int), cs⟩ u) ++ RU) = A) := HE3
                      clear HNOT HYES HE3 ho hra
                      go_upto_region 15 with (first
                        | (go_at_call 69; refine (KO1.out _ H9.out).mono ?_; rintro e w10 ⟨rfl, b10⟩; have H10 : Hid (Below wr.heap.size wr w10) := H9.out.trans (b10.out.mono H9.out.size))
                        | (go_at_call 70; refine (KK1.out _ H10.out).mono ?_; rintro e w11 ⟨rfl, b11⟩; have H11 : Hid (Below wr.heap.size wr w11) := H10.out.trans (b11.out.mono H10.out.size)))
                      obtain ⟨r11, s11, k11⟩ := HNX.out w11 H11.out
                      obtain ⟨qn, kn, w12, hrun, r12, b12, k12⟩ := r11.app s11.size (by have := HLL.out; omega) ix
                      have HR12 : Hid (Rw2 w.heap.size w12 (.slice qn (l.length + 1) kn) (.slice pb LB cb) (l ++ [ix]) lb) := r12
                      have HB12 : Hid (Below w.heap.size w w12) := s11.trans b12
                      have HK12 : Hid (KeepT V w12) := k11.trans k12
                      have HRN : Hid ((Builtin.append_ #[44, 44] 44 #[.slice qa l.length ka, .slice (some ⟨w11.heap.size, 0, none⟩) 1 1]).run Tryz.prog (w11.alloc (.cells #[.int .i64 (ix : Int)] 3)) = .ok (.slice qn (l.length + 1) kn) w12) := hrun
                      clear r11 s11 k11 hrun r12 b12 k12 y5 yn yx
                      go_wp2_with (at_builtin; refine wpList_run_appendT rfl _ _ 44 rfl _ _ rfl rfl HRN.out ?_)
                      go_roundw
                      case rel => exact ⟨v + 1, _, by omega, by omega, by go_num, HR12, HB12, HK12, HE4⟩
                      case measure => simp [intOf]; omega
                    | false =>
                      rw [hra] at KK1
                      have HE3 := HNOT.out hra
                      have HE4 : Hid (l ++ ((ups (v + 1) (t.m + 1)).flatMap (gN t hN hR X Y i ⟨(x : Int), cs⟩ u) ++ RU) = A) := HE3
                      clear HNOT HYES HE3 ho hra
                      go_wp2_with (first
                        | (go_at_call 69; refine (KO1.out _ H9.out).mono ?_; rintro e w10 ⟨rfl, b10⟩; have H10 : Hid (Below wr.heap.size wr w10) := H9.out.trans (b10.out.mono H9.out.size))
                        | (go_at_call 70; refine (KK1.out _ H10.out).mono ?_; rintro e w11 ⟨rfl, b11⟩; have H11 : Hid (Below wr.heap.size wr w11) := H10.out.trans (b11.out.mono H10.out.size)))
                      go_roundw
                      case rel => exact ⟨v + 1, l, by omega, by omega, by go_num, (HNX.out w11 H11.out).1, (HNX.out w11 H11.out).2.1, (HNX.out w11 H11.out).2.2, HE4⟩
                      case measure => simp [intOf]; omega
                  | false =>
                    rw [ho] at KO1
                    have HE3 := HNOT.out (by rw [ho]; rfl)
                    have HE4 : Hid (l ++ ((ups (v + 1) (t.m + 1)).flatMap (gN t hN hR X Y i ⟨(x : Int), cs⟩ u) ++ RU) = A) := HE3
                    clear HNOT HYES HE3 ho
                    go_wp2_with (go_at_call 69; refine (KO1.out _ H9.out).mono ?_; rintro e w10 ⟨rfl, b10⟩; have H10 : Hid (Below wr.heap.size wr w10) := H9.out.trans (b10.out.mono H9.out.size))
                    go_roundw
                    case rel => exact ⟨v + 1, l, by omega, by omega, by go_num, (HNX.out w10 H10.out).1, (HNX.out w10 H10.out).2.1, (HNX.out w10 H10.out).2.2, HE4⟩
                    case measure => simp [intOf]; omega
                · have e2 : (x1 == 0) = false := by rw [beq_eq_false_iff_ne]; exact c2
                  have HE3 := HNOT.out (by rw [e2]; rfl)
                  have HE4 : Hid (l ++ ((ups (v + 1) (t.m + 1)).flatMap (gN t hN hR X Y i ⟨(x : Int), cs⟩ u) ++ RU) = A) := HE3
                  clear HNOT HYES HE3 KO1 KK1
                  go_wp2
                  go_roundw
                  case rel => exact ⟨v + 1, l, by omega, by omega, by go_num, (HNX.out w9 H9.out).1, (HNX.out w9 H9.out).2.1, (HNX.out w9 H9.out).2.2, HE4⟩
                  case measure => simp [intOf]; omega
              · have e1 : decide (0 < n1) = false := decide_eq_false c1
                have HE3 := HNOT.out (by rw [e1]; rfl)
                have HE4 : Hid (l ++ ((ups (v + 1) (t.m + 1)).flatMap (gN t hN hR X Y i ⟨(x : Int), cs⟩ u) ++ RU) = A) := HE3
                clear HNOT HYES HE3 KO1 KK1
                go_wp2
                go_roundw
                case rel => exact ⟨v + 1, l, by omega, by omega, by go_num, (HNX.out w9 H9.out).1, (HNX.out w9 H9.out).2.1, (HNX.out w9 H9.out).2.2, HE4⟩
                case measure => simp [intOf]; omega
            · obtain rfl : v = m + 1 := by omega
              have HE2 : Hid (l ++ (aQ t hN hR X Y i ⟨(x : Int), cs⟩ (u + 1) ++ RA) = A) := by
                have := HE.out
                rw [ups_end (show t.m + 1 ≤ m + 1 by rw [← HMM.out]; omega), HRU.out] at this
                exact this
              have n1 : ¬ ((m + 1 : Nat) : Int) ≤ (m : Int) := by omega
              have n2 : ¬ ((m : Int) + 1) ≤ (m : Int) := by omega
              clear HE
              go_wp2
              go_roundw
              case rel => exact ⟨u + 1, l, by omega, by go_num, HW, HB, HKV, HE2⟩
              case measure => simp [intOf]; omega
        · obtain rfl : u = m + 1 := by omega
          have HE2 : Hid (l ++ RA = A) := by
            have := HE.out
            unfold aQ at this
            rw [ups_end (show t.m + 1 ≤ m + 1 by rw [← HMM.out]; omega)] at this
            exact this
          have n1 : ¬ ((m + 1 : Nat) : Int) ≤ (m : Int) := by omega
          have n2 : ¬ ((m : Int) + 1) ≤ (m : Int) := by omega
          clear HE
          go_wp2
          obtain ⟨LA, hLA⟩ : ∃ LA, LA = l.length := ⟨_, rfl⟩
          have HWS : Hid (Rw2 w.heap.size wr (.slice pb LB cb) (.slice qa LA ka) lb l) := by rw [hLA]; exact HW.out.symm
          rw [← hLA]
          have HLA : Hid (LA = l.length) := hLA
          clear hLA HW
          go_loopw [9, 16] (fun b z wr => ∃ (c : Nat) (k : List Nat), c ≤ C ∧ z = .int .i64 c ∧ Hid (Rw2 w.heap.size wr b (.slice qa LA ka) k l) ∧ Hid (Below w.heap.size w wr) ∧ Hid (KeepT V wr) ∧ Hid (k ++ (bQ t hR X Y i c (cs.drop c) ++ RB) = B)) (fun _ z _ => C - (intOf z).toNat)
          case atStart => exact ⟨0, lb, Nat.zero_le _, rfl, HWS, HB, HKV, HF2⟩
          case round =>
            clear HWS HB HKV HF2
            obtain ⟨c, k, hc, rfl, HW, HB, HKV, HF⟩ := hrel
            obtain ⟨qb, kb, hbv⟩ := row_slice HW.out.oa
            subst hbv
            have hb0 := HKV.out nbx _ _ _ (by decide) HV0.out
            have x1c : wr.cell? ⟨nbx, 1, none⟩ = some (.slice p3 C c3) := Lib.cell_of_heap hb0 1
            by_cases hltc : c < C
            · obtain ⟨d, hd1⟩ : ∃ d, cs[c]? = some d := ⟨_, List.getElem?_eq_getElem (by rw [← HCL.out]; exact hltc)⟩
              obtain ⟨g4, o4, u4, hp4, -, b1, hsy⟩ := (HCN.out.any HB.out).row hd1
              subst hp4
              obtain ⟨p4, c4, hu4⟩ := IsSys.slc hsy
              subst hu4
              have HD1 : Hid (cs[c]? = some d) := hd1
              obtain ⟨S, hSe⟩ : ∃ S, S = d.seq.length := ⟨_, rfl⟩
              have HSL : Hid (S = d.seq.length) := hSe
              rw [← hSe] at b1
              have HCS : Hid (∀ w', Below w.heap.size w w' → w'.cell? ⟨g4, o4 + c * 2 + 1, none⟩ = some (.slice p4 S c4)) := fun w' hb => by
                obtain ⟨g4', o4', u4', hp4', -, b1', -⟩ := HCN.out.row hd1
                injection hp4' with hp4'
                injection hp4' with e1 e2
                subst e1 e2
                have h9 := (HB.out.cell (p := ⟨_, _, none⟩) (cellU_lt b1')).trans b1'
                rw [h9] at b1
                injection b1 with b1
                rw [← b1]
                exact (hb.cell (p := ⟨_, _, none⟩) (cellU_lt b1')).trans b1'
              have HF2 : Hid (k ++ (bD t hR X Y i c d 0 ++ (bQ t hR X Y i (c + 1) (cs.drop (c + 1)) ++ RB)) = B) := by
                show _ = _
                rw [← List.append_assoc (bD _ _ _ _ _ _ _ _), ← bQ_drop hd1]; exact HF.out
              obtain ⟨RC, hRC⟩ : ∃ RC, RC = bQ t hR X Y i (c + 1) (cs.drop (c + 1)) ++ RB := ⟨_, rfl⟩
              have HRC2 : Hid (RC = bQ t hR X Y i (c + 1) (cs.drop (c + 1)) ++ RB) := hRC
              rw [← hRC] at HF2
              have hS9 : S ≤ 4000000 := by
                obtain ⟨-, h1, -⟩ := HRC.out i c S 0 0 _ d w HR1.out hd1 (by omega) (Nat.le_refl _) (Nat.zero_le _) (Below.refl _ _)
                have h2 : S ≤ plc t i c S := by unfold plc; omega
                omega
              clear hsy hd1 hSe hRC HF hb0
              go_wp2
              clear x1c b1
              go_loopw [9, 17] (fun b z wr => ∃ (p : Nat) (k : List Nat), p ≤ S + 1 ∧ z = .int .i64 p ∧ Hid (Rw2 w.heap.size wr b (.slice qa LA ka) k l) ∧ Hid (Below w.heap.size w wr) ∧ Hid (KeepT V wr) ∧ Hid (k ++ (bD t hR X Y i c d p ++ RC) = B)) (fun _ z _ => S + 1 - (intOf z).toNat)
              case atStart => exact ⟨0, k, Nat.zero_le _, rfl, HW, HB, HKV, HF2⟩
              case round =>
                clear HW HB HKV HF2
                obtain ⟨p, k, hp, rfl, HW, HB, HKV, HF⟩ := hrel
                obtain ⟨qb, kb, hbv⟩ := row_slice HW.out.oa
                subst hbv
                have hb0 := HKV.out nbx _ _ _ (by decide) HV0.out
                have x1c : wr.cell? ⟨nbx, 1, none⟩ = some (.slice (some ⟨g4, o4, none⟩) C c3) := Lib.cell_of_heap hb0 1
                have b1 := HCS.out wr HB.out
                by_cases hlp : p ≤ S
                · have hlp2 : (p : Int) ≤ (S : Int) := by omega
                  have hpd : p ≤ d.seq.length := by rw [← HSL.out]; exact hlp
                  have HPD : Hid (p ≤ d.seq.length) := hpd
                  have HF2 : Hid (k ++ (bP t hR X Y i c d p 0 ++ (bD t hR X Y i c d (p + 1) ++ RC)) = B) := by
                    show _ = _
                    have h9 : bD t hR X Y i c d p = bP t hR X Y i c d p 0 ++ bD t hR X Y i c d (p + 1) := by
                      unfold bD
                      rw [ups_lt (show p < d.seq.length + 1 by omega), List.flatMap_cons]
                    rw [← List.append_assoc (bP _ _ _ _ _ _ _ _ _), ← h9]; exact HF.out
                  obtain ⟨RP, hRP⟩ : ∃ RP, RP = bD t hR X Y i c d (p + 1) ++ RC := ⟨_, rfl⟩
                  have HRP : Hid (RP = bD t hR X Y i c d (p + 1) ++ RC) := hRP
                  rw [← hRP] at HF2
                  obtain ⟨Z, hZ⟩ : ∃ Z, Z = wr.alloc (.cells #[.int .i64 (i : Int), .int .i64 (c : Int), .int .i64 (p : Int)] 119) := ⟨_, rfl⟩
                  have hZb : Below wr.heap.size wr Z := by rw [hZ]; exact bel1 _ _
                  have hZ0 : Z.heap[wr.heap.size]? = some (.cells #[.int .i64 (i : Int), .int .i64 (c : Int), .int .i64 (p : Int)] 119) := by rw [hZ]; exact heap_alloc_new wr _
                  obtain ⟨pbx, hpb⟩ : ∃ pbx, pbx = wr.heap.size := ⟨_, rfl⟩
                  rw [← hpb] at hZ0
                  have HZ0 : Hid (Z.heap[pbx]? = some (.cells #[.int .i64 (i : Int), .int .i64 (c : Int), .int .i64 (p : Int)] 119)) := hZ0
                  have HWZ : Hid (Rw2 w.heap.size Z (.slice qb k.length kb) (.slice qa LA ka) k l) := HW.out.any hZb
                  have HBZ : Hid (Below w.heap.size w Z) := HB.out.trans (hZb.mono HB.out.size)
                  have HKZ : Hid (KeepT V Z) := HKV.out.trans (KeepT.of hZb)
                  clear hRP hZb hZ0 hb0 hpd HW HB HKV HF
                  go_upto_region 23 with fail
                  rw [← hZ, ← hpb]
                  clear hZ hpb x1c b1
                  go_wp2
                  go_loopw [9, 19] (fun b z wr => ∃ (u : Nat) (k : List Nat), u ≤ m + 1 ∧ z = .int .i64 u ∧ Hid (Rw2 w.heap.size wr b (.slice qa LA ka) k l) ∧ Hid (Below w.heap.size w wr) ∧ Hid (KeepT V wr) ∧ Hid (KeepT Z wr) ∧ Hid (k ++ (bP t hR X Y i c d p u ++ RP) = B)) (fun _ z _ => m + 1 - (intOf z).toNat)
                  case atStart => exact ⟨0, k, Nat.zero_le _, rfl, HWZ, HBZ, HKZ, fun _ _ _ _ _ h => h, HF2⟩
                  case round =>
                    clear HWZ HBZ HKZ HF2
                    obtain ⟨u, k, hu, rfl, HW, HB, HKV, HKZ, HF⟩ := hrel
                    obtain ⟨qb, kb, hbv⟩ := row_slice HW.out.oa
                    subst hbv
                    by_cases hlu : u ≤ m
                    · have hlu2 : (u : Int) ≤ (m : Int) := by omega
                      have HF2 : Hid (k ++ ((ups u (t.m + 1)).flatMap (gR t hR X Y i c d p u) ++ (bP t hR X Y i c d p (u + 1) ++ RP)) = B) := by
                        show _ = _
                        have h9 : bP t hR X Y i c d p u = (ups u (t.m + 1)).flatMap (gR t hR X Y i c d p u) ++ bP t hR X Y i c d p (u + 1) := by
                          unfold bP
                          rw [ups_lt (show u < t.m + 1 by rw [← HMM.out]; omega), List.flatMap_cons, ← ups_lt (show u < t.m + 1 by rw [← HMM.out]; omega)]
                        rw [← List.append_assoc (List.flatMap _ _), ← h9]; exact HF.out
                      obtain ⟨RU, hRU⟩ : ∃ RU, RU = bP t hR X Y i c d p (u + 1) ++ RP := ⟨_, rfl⟩
                      have HRU : Hid (RU = bP t hR X Y i c d p (u + 1) ++ RP) := hRU
                      rw [← hRU] at HF2
                      clear hRU HF
                      go_wp2
                      go_loopw [9, 20] (fun b z wr => ∃ (v : Nat) (k : List Nat), u ≤ v ∧ v ≤ m + 1 ∧ z = .int .i64 v ∧ Hid (Rw2 w.heap.size wr b (.slice qa LA ka) k l) ∧ Hid (Below w.heap.size w wr) ∧ Hid (KeepT V wr) ∧ Hid (KeepT Z wr) ∧ Hid (k ++ ((ups v (t.m + 1)).flatMap (gR t hR X Y i c d p u) ++ RU) = B)) (fun _ z _ => m + 1 - (intOf z).toNat)
                      case atStart => exact ⟨u, k, Nat.le_refl _, hu, rfl, HW, HB, HKV, HKZ, HF2⟩
                      case round =>
                        clear HW HB HKV HKZ HF2
                        obtain ⟨v, k, huv, hv, rfl, HW, HB, HKV, HKZ, HF⟩ := hrel
                        obtain ⟨qb, kb, hbv⟩ := row_slice HW.out.oa
                        subst hbv
                        by_cases hlv : v ≤ m
                        · have hlv2 : (v : Int) ≤ (m : Int) := by omega
                          have hvt : v ≤ t.m := by rw [← HMM.out]; exact hlv
                          have HF2 : Hid (k ++ (gR t hR X Y i c d p u v ++ ((ups (v + 1) (t.m + 1)).flatMap (gR t hR X Y i c d p u) ++ RU)) = B) := by
                            show _ = _
                            have := HF.out
                            rw [ups_lt (show v < t.m + 1 by omega), List.flatMap_cons, List.append_assoc] at this
                            exact this
                          have hb0 := HKZ.out pbx _ _ _ (by decide) HZ0.out
                          obtain ⟨k1, k2, k3, k4, k5, k6⟩ := HRC.out i c p u v _ d wr HR1.out HD1.out HPD.out huv hvt HB.out
                          obtain ⟨ix, hix⟩ : ∃ ix, ix = restIx t i c p u v := ⟨_, rfl⟩
                          obtain ⟨sp, hsp⟩ : ∃ sp, sp = spn t u v := ⟨_, rfl⟩
                          obtain ⟨pl, hpe⟩ : ∃ pl, pl = plc t i c p := ⟨_, rfl⟩
                          rw [← hix, ← hsp, ← hpe] at k3
                          rw [← hix] at k1 k5 k6
                          rw [← hsp] at k4
                          rw [← hpe] at k2
                          obtain ⟨xw, hmul, hsum, hw1, hw2⟩ := mul_facts k2 hwd k3 k4
                          obtain ⟨n1, hn1⟩ : ∃ n1, n1 = hR ix := ⟨_, rfl⟩
                          obtain ⟨y1, hy1⟩ : ∃ y1, y1 = Y ix := ⟨_, rfl⟩
                          have HGN : Hid (gR t hR X Y i c d p u v = if (decide (0 < n1) && ((y1 == 0) && stepT t X Y i c p d.seq u v)) = true then [ix] else []) := by
                            show _ = _
                            rw [hn1, hy1, hix]; rfl
                          have HXA : Hid (∀ w', Below wr.heap.size wr w' → w'.cell? ⟨pbx, 0, none⟩ = some (.int .i64 (i : Int)) ∧ w'.cell? ⟨pbx, 1, none⟩ = some (.int .i64 (c : Int)) ∧ w'.cell? ⟨pbx, 2, none⟩ = some (.int .i64 (p : Int)) ∧ w'.cell? ⟨tb, 4, none⟩ = some (.int .i64 (wd : Int)) ∧ w'.cell? ⟨tb, 7, none⟩ = some (.slice (some ⟨t.rb, 0, none⟩) rn rn) ∧ w'.cell? ⟨t.rb, ix, none⟩ = some (.int .i64 n1) ∧ w'.cell? ⟨yb, ix, none⟩ = some (.int .i64 y1)) := fun w' hb => by
                            obtain ⟨-, -, d4, -, d7⟩ := HTC.out w' (HB.out.trans (hb.mono HB.out.size))
                            have h9 := (hb.block _ (blk_ltT hb0)).trans hb0
                            refine ⟨Lib.cell_of_heap h9 0, Lib.cell_of_heap h9 1, Lib.cell_of_heap h9 2, d4, d7, ?_, ?_⟩
                            · rw [hn1]; exact (hb.cell (p := ⟨_, _, none⟩) (cellU_lt k5)).trans k5
                            · rw [hy1]; exact (hb.cell (p := ⟨_, _, none⟩) (cellU_lt k6)).trans k6
                          have KS1 : Hid (∀ w', Below wr.heap.size wr w' → Calls Tryz.prog 43 #[.pointer (some ⟨tb, 0, none⟩), .int .i64 (u : Int), .int .i64 (v : Int)] w' fun e w'' => e = .returned (.int .i64 (sp : Int)) ∧ Below wr.heap.size wr w'') := fun w' hb => (KS.out u v w' (HB.out.trans (hb.mono HB.out.size)) huv hvt).mono fun e w'' h => ⟨by rw [hsp]; exact h.1, by rw [← h.2]; exact hb⟩
                          have KP1 : Hid (∀ w', Below wr.heap.size wr w' → Calls Tryz.prog 68 #[.pointer (some ⟨tb, 0, none⟩), .agg #[.int .i64 (i : Int), .int .i64 (c : Int), .int .i64 (p : Int)]] w' fun e w'' => e = .returned (.int .i64 (pl : Int)) ∧ Below wr.heap.size wr w'') := fun w' hb => (KP.out i c p _ d w' (HB.out.trans (hb.mono HB.out.size)) HR1.out HD1.out HPD.out).mono fun e w'' h => ⟨by rw [hpe]; exact h.1, hb.trans (h.2.out.mono hb.size)⟩
                          have hlt2 : (ix : Int) < (rn : Int) := by omega
                          have KX1 : Hid (∀ w', Below wr.heap.size wr w' → Calls Tryz.prog 71 #[.pointer (some ⟨tb, 0, none⟩), .slice (some ⟨xb, 0, none⟩) nn nn, .slice (some ⟨yb, 0, none⟩) rn rn, .agg #[.int .i64 (i : Int), .int .i64 (c : Int), .int .i64 (p : Int)], .int .i64 (u : Int), .int .i64 (v : Int)] w' fun e w'' => e = .returned (.bool (stepT t X Y i c p d.seq u v)) ∧ Hid (Below w'.heap.size w' w'')) := fun w' hb => KX.out i c p u v _ d w' (HB.out.trans (hb.mono HB.out.size)) HR1.out HD1.out HPD.out huv hvt
                          clear hb0 k2 k3 k4 k5 k6 hix hsp hpe hn1 hy1 HF hvt
                          go_upto_region 29 with fail
                          obtain ⟨ι, fw, n0, hf0, hfw, hcl⟩ := family2T (fun w' => Below wr.heap.size wr w') wr.drew (Below.refl _ _).drew
                          have hne0 : Nonempty ι := ⟨n0⟩
                          have z0 := fun n => (HXA.out (fw n) (hfw n)).1
                          have z1 := fun n => (HXA.out (fw n) (hfw n)).2.1
                          have z2 := fun n => (HXA.out (fw n) (hfw n)).2.2.1
                          have z3 := fun n => (HXA.out (fw n) (hfw n)).2.2.2.1
                          refine region_classT fw (by kernel_rfl) (by kernel_rfl) ⟨n0, hf0⟩ ?_
                          clear hf0
                          repeat (go_big_quiet_step ((first
                            | (go_at_call 43; (with_reducible refine (KS1.out _ (hfw _)).mono ?_; rintro e w' ⟨rfl, hb⟩; exact ⟨rfl, hcl _ hb⟩))
                            | (go_at_call 68; (with_reducible refine (KP1.out _ (hfw _)).mono ?_; rintro e w' ⟨rfl, hb⟩; exact ⟨rfl, hcl _ hb⟩)))))
                          refine wpQuiet_nil ?_
                          intro w9 hw9
                          obtain ⟨mm, rfl⟩ := hw9
                          have H9 : Hid (Below wr.heap.size wr (fw mm)) := hfw mm
                          generalize fw mm = w9 at H9
                          clear hcl hfw hne0 n0 z0 z1 z2 z3
                          clear fw
                          obtain ⟨y0, y1c, y2, -, y7, yn, yx⟩ := HXA.out w9 H9.out
                          have HNOT : Hid ((decide (0 < n1) && ((y1 == 0) && stepT t X Y i c p d.seq u v)) = false → k ++ ((ups (v + 1) (t.m + 1)).flatMap (gR t hR X Y i c d p u) ++ RU) = B) := fun e => by
                            have := HF2.out
                            rw [HGN.out, e] at this
                            simpa using this
                          have HYES : Hid ((decide (0 < n1) && ((y1 == 0) && stepT t X Y i c p d.seq u v)) = true → (k ++ [ix]) ++ ((ups (v + 1) (t.m + 1)).flatMap (gR t hR X Y i c d p u) ++ RU) = B) := fun e => by
                            have := HF2.out
                            rw [HGN.out, e] at this
                            simpa using this
                          have HLL : Hid (k.length ≤ 5000000) := Nat.le_trans (len_le HF2.out) hBl
                          have HNX : Hid (∀ w', Below wr.heap.size wr w' → Rw2 w.heap.size w' (.slice qb k.length kb) (.slice qa LA ka) k l ∧ Below w.heap.size w w' ∧ KeepT V w' ∧ KeepT Z w') := fun w' hb => ⟨HW.out.any hb, HB.out.trans (hb.mono HB.out.size), HKV.out.trans (KeepT.of hb), HKZ.out.trans (KeepT.of hb)⟩
                          clear HF2 HGN HXA KS1 KP1 hmul hsum hw1 hw2 HW HB HKV HKZ
                          by_cases c1 : 0 < n1
                          · have e1 : decide (0 < n1) = true := decide_eq_true c1
                            rw [e1, Bool.true_and] at HNOT HYES
                            by_cases c2 : y1 = 0
                            · subst c2
                              rw [show ((0 : Int) == 0) = true from rfl, Bool.true_and] at HNOT HYES
                              cases ho : stepT t X Y i c p d.seq u v with
                              | true =>
                                rw [ho] at KX1
                                have HE4 : Hid ((k ++ [ix]) ++ ((ups (v + 1) (t.m + 1)).flatMap (gR t hR X Y i c d p u) ++ RU) = B) := HYES.out ho
                                clear HNOT HYES ho
                                go_upto_region 31 with (go_at_call 71; refine (KX1.out _ H9.out).mono ?_; rintro e w11 ⟨rfl, b11⟩; have H11 : Hid (Below wr.heap.size wr w11) := H9.out.trans (b11.out.mono H9.out.size))
                                obtain ⟨r11, s11, k11, j11⟩ := HNX.out w11 H11.out
                                obtain ⟨qn, kn, w12, hrun, r12, b12, k12⟩ := r11.app s11.size (by have := HLL.out; omega) ix
                                have HR12 : Hid (Rw2 w.heap.size w12 (.slice qn (k.length + 1) kn) (.slice qa LA ka) (k ++ [ix]) l) := r12
                                have HB12 : Hid (Below w.heap.size w w12) := s11.trans b12
                                have HK12 : Hid (KeepT V w12) := k11.trans k12
                                have HJ12 : Hid (KeepT Z w12) := j11.trans k12
                                have HRN : Hid ((Builtin.append_ #[44, 44] 44 #[.slice qb k.length kb, .slice (some ⟨w11.heap.size, 0, none⟩) 1 1]).run Tryz.prog (w11.alloc (.cells #[.int .i64 (ix : Int)] 3)) = .ok (.slice qn (k.length + 1) kn) w12) := hrun
                                clear r11 s11 k11 j11 hrun r12 b12 k12 y0 y1c y2 y7 yn yx
                                go_wp2_with (at_builtin; refine wpList_run_appendT rfl _ _ 44 rfl _ _ rfl rfl HRN.out ?_)
                                go_roundw
                                case rel => exact ⟨v + 1, _, by omega, by omega, by go_num, HR12, HB12, HK12, HJ12, HE4⟩
                                case measure => simp [intOf]; omega
                              | false =>
                                rw [ho] at KX1
                                have HE4 : Hid (k ++ ((ups (v + 1) (t.m + 1)).flatMap (gR t hR X Y i c d p u) ++ RU) = B) := HNOT.out ho
                                clear HNOT HYES ho
                                go_wp2_with (go_at_call 71; refine (KX1.out _ H9.out).mono ?_; rintro e w11 ⟨rfl, b11⟩; have H11 : Hid (Below wr.heap.size wr w11) := H9.out.trans (b11.out.mono H9.out.size))
                                go_roundw
                                case rel => exact ⟨v + 1, k, by omega, by omega, by go_num, (HNX.out w11 H11.out).1, (HNX.out w11 H11.out).2.1, (HNX.out w11 H11.out).2.2.1, (HNX.out w11 H11.out).2.2.2, HE4⟩
                                case measure => simp [intOf]; omega
                            · have e2 : (y1 == 0) = false := by rw [beq_eq_false_iff_ne]; exact c2
                              have HE4 : Hid (k ++ ((ups (v + 1) (t.m + 1)).flatMap (gR t hR X Y i c d p u) ++ RU) = B) := HNOT.out (by rw [e2]; rfl)
                              clear HNOT HYES KX1
                              go_wp2
                              go_roundw
                              case rel => exact ⟨v + 1, k, by omega, by omega, by go_num, (HNX.out w9 H9.out).1, (HNX.out w9 H9.out).2.1, (HNX.out w9 H9.out).2.2.1, (HNX.out w9 H9.out).2.2.2, HE4⟩
                              case measure => simp [intOf]; omega
                          · have e1 : decide (0 < n1) = false := decide_eq_false c1
                            have HE4 : Hid (k ++ ((ups (v + 1) (t.m + 1)).flatMap (gR t hR X Y i c d p u) ++ RU) = B) := HNOT.out (by rw [e1]; rfl)
                            clear HNOT HYES KX1
                            go_wp2
                            go_roundw
                            case rel => exact ⟨v + 1, k, by omega, by omega, by go_num, (HNX.out w9 H9.out).1, (HNX.out w9 H9.out).2.1, (HNX.out w9 H9.out).2.2.1, (HNX.out w9 H9.out).2.2.2, HE4⟩
                            case measure => simp [intOf]; omega
                        · obtain rfl : v = m + 1 := by omega
                          have HF2 : Hid (k ++ (bP t hR X Y i c d p (u + 1) ++ RP) = B) := by
                            have := HF.out
                            rw [ups_end (show t.m + 1 ≤ m + 1 by rw [← HMM.out]; omega), HRU.out] at this
                            exact this
                          have n1 : ¬ ((m + 1 : Nat) : Int) ≤ (m : Int) := by omega
                          have n2 : ¬ ((m : Int) + 1) ≤ (m : Int) := by omega
                          clear HF
                          go_wp2
                          go_roundw
                          case rel => exact ⟨u + 1, k, by omega, by go_num, HW, HB, HKV, HKZ, HF2⟩
                          case measure => simp [intOf]; omega
                    · obtain rfl : u = m + 1 := by omega
                      have HF2 : Hid (k ++ (bD t hR X Y i c d (p + 1) ++ RC) = B) := by
                        have := HF.out
                        unfold bP at this
                        rw [ups_end (show t.m + 1 ≤ m + 1 by rw [← HMM.out]; omega), HRP.out] at this
                        exact this
                      have n1 : ¬ ((m + 1 : Nat) : Int) ≤ (m : Int) := by omega
                      have n2 : ¬ ((m : Int) + 1) ≤ (m : Int) := by omega
                      clear HF
                      go_wp2
                      go_roundw
                      case rel => exact ⟨p + 1, k, by omega, by go_num, HW, HB, HKV, HF2⟩
                      case measure => simp [intOf]; omega
                · obtain rfl : p = S + 1 := by omega
                  have HF2 : Hid (k ++ (bQ t hR X Y i (c + 1) (cs.drop (c + 1)) ++ RB) = B) := by
                    have := HF.out
                    unfold bD at this
                    rw [ups_end (show d.seq.length + 1 ≤ S + 1 by rw [HSL.out]; omega), HRC2.out] at this
                    exact this
                  have n1 : ¬ ((S + 1 : Nat) : Int) ≤ (S : Int) := by omega
                  have n2 : ¬ ((S : Int) + 1) ≤ (S : Int) := by omega
                  clear HF hb0
                  go_wp2
                  go_roundw
                  case rel => exact ⟨c + 1, k, by omega, by go_num, HW, HB, HKV, HF2⟩
                  case measure => simp [intOf]; omega
            · obtain rfl : c = C := by omega
              have HF2 : Hid (k ++ bL t hR X Y (i + 1) (L.drop (i + 1)) = B) := by
                have := HF.out
                rw [HCL.out, List.drop_length, HRB.out] at this
                exact this
              have HE3 : Hid (l ++ aL t hN hR X Y (i + 1) (L.drop (i + 1)) = A) := by
                have := HE2.out
                rw [HRA.out] at this
                exact this
              have HWE : Hid (Rw2 w.heap.size wr (.slice qa LA ka) (.slice qb k.length kb) l k) := HW.out.symm
              clear HF hb0
              go_wp2
              go_roundw
              case rel => exact ⟨i + 1, l, k, by omega, by go_num, HWE, HB, HE3, HF2⟩
              case measure => simp [intOf]; omega
    · obtain rfl : i = N := by omega
      have HE2 : Hid (la = A) := by
        have := HE.out
        rw [HNN.out, List.drop_length] at this
        have e : la = A := by simpa [aL] using this
        exact e
      have HF2 : Hid (lb = B) := by
        have := HF.out
        rw [HNN.out, List.drop_length] at this
        have e : lb = B := by simpa [bL] using this
        exact e
      clear HE HF
      go_wp2
      go_ret2
      obtain rfl : la = A := HE2.out
      obtain rfl : lb = B := HF2.out
      exact ⟨_, _, _, _, rfl, HW, HB⟩
end Go.Proofs.YtejhdhlpdcfedaaGreat
/- The document's table: rank, plain and walked. -/
namespace Go.Proofs.YtejhdhlpdcfedaaGreat
set_option linter.unusedVariables false
open Go.ChangeShapes Go.WideShapes Go.ChangeAt Go.RowKit

section
variable (t : Tp) (hN hR : Nat → Int)
def putL (A : List Nat) (r : Int) (X : Nat → Int) : Nat → Int := fun k => if k ∈ A then r else X k
/-- Ranks after some rounds. -/
def rkI : Nat → (Nat → Int) × (Nat → Int)
  | 0 => (fun _ => 0, fun _ => 0)
  | n + 1 => (putL (aL t hN hR (rkI n).1 (rkI n).2 0 t.g.rules) ((n : Int) + 1) (rkI n).1, putL (bL t hR (rkI n).1 (rkI n).2 0 t.g.rules) ((n : Int) + 1) (rkI n).2)
/-- No round gives another one. -/
def RkEnd (n : Nat) : Prop := aL t hN hR (rkI t hN hR n).1 (rkI t hN hR n).2 0 t.g.rules = [] ∧ bL t hR (rkI t hN hR n).1 (rkI t hN hR n).2 0 t.g.rules = []
end
section
variable {t : Tp} {hN hR X Y : Nat → Int}
theorem putL_mono {A : List Nat} {r : Int} (hr : 0 < r) {k : Nat} (h : 0 < X k) : 0 < putL A r X k := by
  unfold putL; split
  · exact hr
  · exact h
theorem zero_zc : ∀ n, zc n (fun _ => 0) = n
  | 0 => rfl
  | n + 1 => by show zc n _ + _ = _; rw [zero_zc n]; simp
theorem aL_zero {ix : Nat} (h : ix ∈ aL t hN hR X Y 0 t.g.rules) (hw : Tw t) : X ix = 0 ∧ ix < t.nn ∧ 0 < hN ix := by
  obtain ⟨q, r, u, v, h1, h2, h3, h4, h5⟩ := (aL_mem t.g.rules 0).1 h
  unfold cN at h4
  simp only [Bool.and_eq_true, decide_eq_true_eq, beq_iff_eq] at h4
  rw [← h5] at h4
  refine ⟨h4.2.1, ?_, h4.1⟩
  rw [h5]
  have := hw.h r (List.mem_of_getElem? h1)
  exact nameIx_lt (by omega) h2 h3
theorem bL_zero {ix : Nat} (h : ix ∈ bL t hR X Y 0 t.g.rules) : Y ix = 0 ∧ ix < t.rn ∧ 0 < hR ix := by
  obtain ⟨q, r, c, d, p, u, v, h0, h1, h2, h3, h4, h5, h6⟩ := (bL_mem t.g.rules 0).1 h
  unfold cR at h5
  simp only [Bool.and_eq_true, decide_eq_true_eq, beq_iff_eq] at h5
  rw [← h6] at h5
  refine ⟨h5.2.1, ?_, h5.1⟩
  rw [h6, Nat.zero_add]
  exact restIx_lt (plc_lt ⟨r, d, h0, h1, h2⟩) h3 h4
/-- A round that gives something leaves fewer without. -/
theorem round_less {A B : List Nat} {r : Int} (hr : 0 < r) {n m : Nat} (hA : ∀ ix, ix ∈ A → X ix = 0 ∧ ix < n) (hB : ∀ ix, ix ∈ B → Y ix = 0 ∧ ix < m) (hne : A.length + B.length ≠ 0) : zc n (putL A r X) + zc m (putL B r Y) + 1 ≤ zc n X + zc m Y := by
  have h1 : zc n (putL A r X) ≤ zc n X := zc_le fun k _ hk => putL_mono hr hk
  have h2 : zc m (putL B r Y) ≤ zc m Y := zc_le fun k _ hk => putL_mono hr hk
  cases A with
  | cons a l =>
    have h3 : zc n (putL (a :: l) r X) < zc n X := zc_lt (ix := a) (fun k _ hk => putL_mono hr hk) (hA a (by simp)).2 (by rw [(hA a (by simp)).1]; decide) (by unfold putL; rw [if_pos (by simp)]; exact hr)
    omega
  | nil =>
    cases B with
    | nil => simp at hne
    | cons a l =>
      have h3 : zc m (putL (a :: l) r Y) < zc m Y := zc_lt (ix := a) (fun k _ hk => putL_mono hr hk) (hB a (by simp)).2 (by rw [(hB a (by simp)).1]; decide) (by unfold putL; rw [if_pos (by simp)]; exact hr)
      omega
/-- Ranks are at least 0, and of what is in alone. -/
theorem rkI_in (hw : Tw t) : ∀ n k, (0 ≤ (rkI t hN hR n).1 k ∧ ((rkI t hN hR n).1 k ≠ 0 → 0 < hN k)) ∧ (0 ≤ (rkI t hN hR n).2 k ∧ ((rkI t hN hR n).2 k ≠ 0 → 0 < hR k))
  | 0, k => ⟨⟨Int.le_refl _, fun h => absurd rfl h⟩, Int.le_refl _, fun h => absurd rfl h⟩
  | n + 1, k => by
    obtain ⟨⟨a1, a2⟩, b1, b2⟩ := rkI_in hw n k
    unfold rkI putL
    simp only
    refine ⟨?_, ?_⟩
    · split
      · rename_i h; exact ⟨by omega, fun _ => (aL_zero h hw).2.2⟩
      · exact ⟨a1, a2⟩
    · split
      · rename_i h; exact ⟨by omega, fun _ => (bL_zero h).2.2⟩
      · exact ⟨b1, b2⟩
theorem any_find {p : Nat → Bool} {l : List Nat} (h : l = []) {x : Nat} : ¬ x ∈ l := by rw [h]; simp
/-- All that is in has a rank once no round gives another one. -/
theorem rank_all {f : Nat → Nat} {k : Nat} (hw : Tw t) (hL : Stb3 (btsT t) t.m t.g.rules (MN t hN)) (hS : SoundR t hN hR) (hC : ∀ (q : Nat) (r : Ru), t.g.rules[q]? = some r → CompQ t hN hR q r) {n : Nat} (he : RkEnd t hN hR n) :
    ∀ x i j, x < t.g.names.length → i ≤ j → j ≤ t.m → (decide (0 < (rkI t hN hR n).1 (nameIx t x i j)) = MN t hN x i j) := by
  obtain ⟨X, hX⟩ : ∃ X, X = (rkI t hN hR n).1 := ⟨_, rfl⟩
  obtain ⟨Y, hY⟩ : ∃ Y, Y = (rkI t hN hR n).2 := ⟨_, rfl⟩
  have hin := rkI_in (hN := hN) (hR := hR) hw n
  obtain ⟨hA, hB⟩ := he
  rw [← hX, ← hY] at hin hA hB
  rw [← hX]
  have hNX : ∀ x i j, MN t X x i j = true → MN t hN x i j = true := fun x i j h => by
    obtain ⟨h1, h2, h3, h4⟩ := MN_true h
    rw [MN_at h1 h2 h3]
    unfold hasN at *
    simp only [decide_eq_true_eq] at *
    exact (hin _).1.2 (by omega)
  have key := ranked_all hL (X := MN t X) (Y := fun q c p i j => hasR t Y q c p i j) hNX ?_ ?_
  · intro x i j hx hij hj
    have h1 : MN t X x i j = decide (0 < X (nameIx t x i j)) := by rw [MN_at hx hij hj]; rfl
    rw [← h1, Bool.eq_iff_iff]
    exact ⟨hNX x i j, key x i j⟩
  · intro q c r d hq hc hd p hp i j hij hj hr hm
    refine Classical.byContradiction fun hno => ?_
    have h0 : ¬ 0 < Y (restIx t q c p i j) := fun h => hno (by unfold hasR; simpa using h)
    have h1 : Y (restIx t q c p i j) = 0 := by have := (hin (restIx t q c p i j)).2.1; omega
    have h2 : hasR t hR q c p i j = true := hC q r hq c d hc p hp i j hij hj hr
    have h3 : stepT t X Y q c p d.seq i j = true := by
      unfold stepT
      have hsy := hw.s r (List.mem_of_getElem? hq) d (List.mem_of_getElem? hc)
      cases hs : d.seq[p]? with
      | none => rw [hs] at hm; exact hm
      | some s =>
        rw [hs] at hm
        simp only at hm ⊢
        split
        · rename_i e
          rw [if_pos e] at hm
          exact hm
        · rename_i e
          rw [if_neg e] at hm
          rw [List.any_eq_true] at hm ⊢
          obtain ⟨k, hk, hh⟩ := hm
          refine ⟨k, hk, ?_⟩
          simp only [Bool.and_eq_true, decide_eq_true_eq] at hh
          obtain ⟨m1, m2, m3, m4⟩ := MN_true hh.2.1
          unfold hitT
          simp only [Bool.and_eq_true, decide_eq_true_eq]
          exact ⟨hh.1, m4, hh.2.2⟩
    have h4 : restIx t q c p i j ∈ bL t hR X Y 0 t.g.rules := by
      refine (bL_mem t.g.rules 0).2 ⟨q, r, c, d, p, i, j, hq, hc, hp, hij, hj, ?_, by rw [Nat.zero_add]⟩
      rw [Nat.zero_add]
      unfold cR
      unfold hasR at h2
      rw [h2, h1, h3]; rfl
    rw [hB] at h4; simp at h4
  · intro q r hq i j hij hj hm hh hk
    refine Classical.byContradiction fun hno => ?_
    have hx : r.head.toNat < t.g.names.length := by have := hw.h r (List.mem_of_getElem? hq); omega
    have h0 : ¬ 0 < X (nameIx t r.head.toNat i j) := fun h => hno (by rw [MN_at hx hij hj]; unfold hasN; simpa using h)
    have h1 : X (nameIx t r.head.toNat i j) = 0 := by have := (hin (nameIx t r.head.toNat i j)).1.1; omega
    have h2 : decide (0 < hN (nameIx t r.head.toNat i j)) = true := by rw [MN_at hx hij hj] at hm; exact hm
    have h3 : holT t hR q r.conj i j = true := by rw [hol_eq hS hq (hC q r hq) hij hj]; exact hh
    have h5 : ranT t Y q r.conj i j = true := by
      unfold ranT
      rw [List.all_eq_true]
      intro c hc
      have hlt := List.mem_range.1 hc
      unfold rnkT
      rw [List.getD_eq_getElem?_getD, List.getElem?_eq_getElem hlt]
      simp only [Option.getD_some]
      cases hn : (r.conj[c]).neg with
      | true => rfl
      | false =>
        have := hk c r.conj[c] (List.getElem?_eq_getElem hlt) hn
        unfold hasR at this
        simp only [decide_eq_true_eq] at this
        simp only [Bool.false_or, Bool.not_eq_true', beq_eq_false_iff_ne, ne_eq]
        omega
    have h4 : nameIx t r.head.toNat i j ∈ aL t hN hR X Y 0 t.g.rules := by
      refine (aL_mem t.g.rules 0).2 ⟨q, r, i, j, hq, hij, hj, ?_, rfl⟩
      rw [Nat.zero_add]
      unfold cN
      rw [h2, h1, h3, h5]; rfl
    rw [hA] at h4; simp at h4
end
def zerA (n : Nat) : Array Value := ((List.range n).map fun _ => Value.int .i64 0).toArray
theorem made_zer (n : Nat) : madeCells #[.int .i64 0] n = zerA n := by
  apply Array.ext_getElem?
  intro i
  by_cases hi : i < n
  · simp [madeCells, zerA, hi, Nat.mod_one]
  · rw [Array.getElem?_eq_none (by rw [size_madeCells]; omega), Array.getElem?_eq_none (by simp [zerA]; omega)]
theorem make_zer (n : Nat) (hn : n ≤ 100000000) (w : World) : (Instr.makeSlice 44 (.int .i64 (n : Int)) (.int .i64 (n : Int))).run Tryz.prog w = .ok (.slice (some ⟨w.heap.size, 0, none⟩) n n) (w.alloc (.cells (zerA n) 3)) := by
  obtain ⟨i, hi, hz, hs, hb⟩ := info_partsT Tryz.infoIntT
  have h := run_make (P := Tryz.prog) w 44 3 i _ Tryz.underlying44 hi hz .i64 .i64 (n : Int) (n : Int) (by omega) (Int.le_refl _) (by rw [hb]; omega) (by omega)
  simp only [Int.toNat_natCast, hs, Nat.mul_one] at h
  rw [← made_zer]
  exact h
theorem IBk.zer (w : World) (n : Nat) : IBk (w.alloc (.cells (zerA n) 3)) w.heap.size n (fun _ => 0) := heap_alloc_new w _
/-- The cells of a row of numbers. -/
theorem row_nums {w : World} {B n c : Nat} {p : Option Addr} {A : List Nat} (h : w.ownsRow B 3 1 (.slice p n c) n (nsV A)) (hn : 0 < n) : ∃ g o, p = some ⟨g, o, none⟩ ∧ B ≤ g ∧ g < w.heap.size ∧ ∀ i ix, A[i]? = some ix → w.cell? ⟨g, o + i, none⟩ = some (.int .i64 ((ix : Nat) : Int)) := by
  obtain ⟨p2, c2, e2, _, hc⟩ := Reads.of h (F := fun b => B ≤ b) (fun b e => (h.lt b e).1)
  injection e2 with e3
  subst e3
  obtain ⟨g, o, e, hB, hg, cc, _⟩ := hc hn
  exact ⟨g, o, e, hB, hg, fun i ix hi => cc i _ (by unfold nsV; rw [List.getElem?_map, hi]; rfl)⟩
end Go.Proofs.YtejhdhlpdcfedaaGreat
/- The document's table: rank, walked. -/
namespace Go.Proofs.YtejhdhlpdcfedaaGreat
set_option linter.unusedVariables false
open Go.ChangeShapes Go.WideShapes Go.ChangeAt Go.RowKit

/-- All stays but one block. -/
structure Bt2 (b : Nat) (w w' : World) : Prop where
  os : w'.os = w.os
  tape : w'.tape = w.tape
  output : w'.output = w.output
  size : w.heap.size ≤ w'.heap.size
  block : ∀ k, k < w.heap.size → k ≠ b → w'.heap[k]? = w.heap[k]?
/-- A table with its numbers in other blocks. -/
def Tp.at (t : Tp) (x y : Nat) : Tp := { t with nb := x, rb := y }
theorem putL_take {A : List Nat} {r : Int} {X : Nat → Int} {i ix : Nat} (h : A[i]? = some ix) : putL (A.take (i + 1)) r X = fun j => if j = ix then r else putL (A.take i) r X j := by
  funext j
  unfold putL
  rw [List.take_add_one, h]
  simp only [List.mem_append, Option.mem_toList, Option.some.injEq]
  by_cases e : j = ix
  · subst e; simp
  · have e' : ¬ ix = j := fun h => e h.symm
    simp [e, e']
theorem putL_nil (r : Int) (X : Nat → Int) : putL [] r X = X := by funext j; simp [putL]
theorem two_made (w : World) (n m : Nat) : IBk ((w.alloc (.cells (zerA n) 3)).alloc (.cells (zerA m) 3)).drew w.heap.size n (fun _ => 0) ∧ IBk ((w.alloc (.cells (zerA n) 3)).alloc (.cells (zerA m) 3)).drew (w.heap.size + 1) m (fun _ => 0) ∧ Below w.heap.size w ((w.alloc (.cells (zerA n) 3)).alloc (.cells (zerA m) 3)).drew := by
  refine ⟨(IBk.zer w n).keep (bel1 _ _).drew, ?_, (bel2 w _ _).drew⟩
  have h := (IBk.zer (w.alloc (.cells (zerA n) 3)) m).keep (Below.refl _ _).drew
  rw [show (w.alloc (.cells (zerA n) 3)).heap.size = w.heap.size + 1 by simp] at h
  exact h
theorem fin_tb {w w' : World} {F : Nat → Prop} {tb : Nat} {t : Tp} {hN hR X Y : Nat → Int} {xb yb : Nat} (hT : Ts F tb t hN hR w) (hF : ∀ i, F i → i < w.heap.size ∧ i ≠ tb) (hb : Below w.heap.size w w') (hx : IBk w' xb t.nn X) (hy : IBk w' yb t.rn Y) (hx1 : w.heap.size ≤ xb) (hy1 : w.heap.size ≤ yb) :
    Ts F tb (t.at xb yb) X Y ((w'.setCell ⟨tb, 5, none⟩ (.slice (some ⟨xb, 0, none⟩) t.nn t.nn)).setCell ⟨tb, 7, none⟩ (.slice (some ⟨yb, 0, none⟩) t.rn t.rn)) := by
  have htb := blk_ltT hT.1.1
  have h1 := (hT.1.any hb).1
  have ho : ∀ i, i ≠ tb → ((w'.setCell ⟨tb, 5, none⟩ (.slice (some ⟨xb, 0, none⟩) t.nn t.nn)).setCell ⟨tb, 7, none⟩ (.slice (some ⟨yb, 0, none⟩) t.rn t.rn)).heap[i]? = w'.heap[i]? := fun i hi => (Go.Deep.blk_setCell_other _ ⟨tb, 7, none⟩ _ i hi).trans (Go.Deep.blk_setCell_other _ ⟨tb, 5, none⟩ _ i hi)
  obtain ⟨-, hg, us, h4, h5, h6⟩ := hT.1.any hb
  have hst : Stay F w' ((w'.setCell ⟨tb, 5, none⟩ (.slice (some ⟨xb, 0, none⟩) t.nn t.nn)).setCell ⟨tb, 7, none⟩ (.slice (some ⟨yb, 0, none⟩) t.rn t.rn)) := ⟨by rw [Go.Deep.nblk_setCell, Go.Deep.nblk_setCell]; exact Nat.le_refl _, fun i hi => ho i (hF i hi).2⟩
  refine ⟨⟨?_, GrIs.keepT hg hst, us, h4, h5.keep hst (fun _ h => h), fun q r u e1 e2 => (h6 q r u e1 e2).keep hst (fun _ h => h)⟩, hx.blk (ho xb (by omega)), hy.blk (ho yb (by omega))⟩
  simp only [World.setCell, Array.getElem?_modify, if_pos, h1, Option.map_some]
  rfl
set_option maxHeartbeats 2000000 in
set_option maxRecDepth 100000 in
theorem rankT_any (t : Tp) (tb : Nat) (hN hR : Nat → Int) (w : World) {F : Nat → Prop} (hT : Ts F tb t hN hR w) (hF : ∀ i, F i → i < w.heap.size ∧ i ≠ tb) (hw : Tw t) (hr256 : t.g.rules.length ≤ 256) :
    Calls Tryz.prog 26 #[.pointer (some ⟨tb, 0, none⟩)] w fun e w' => ∃ n xb yb, e = .returned (.tuple #[]) ∧ Hid (w.heap.size ≤ xb ∧ w.heap.size ≤ yb ∧ xb ≠ yb) ∧ Hid (Ts F tb (t.at xb yb) (rkI t hN hR n).1 (rkI t hN hR n).2 w') ∧ Hid (RkEnd t hN hR n) ∧ Hid (Bt2 tb w w') := by
  obtain ⟨nn, hnn⟩ : ∃ nn, nn = t.nn := ⟨_, rfl⟩
  obtain ⟨rn, hrn⟩ : ∃ rn, rn = t.rn := ⟨_, rfl⟩
  have hwd := wide_le hw.m
  have hn9 : nn ≤ 5000000 := by
    have := Nat.mul_le_mul hw.n hwd
    rw [hnn]; unfold Tp.nn; omega
  have hr9 : rn ≤ 5000000 := by
    have := Nat.mul_le_mul hw.z hwd
    rw [hrn]; unfold Tp.rn; omega
  have t5 : w.cell? ⟨tb, 5, none⟩ = some (.slice (some ⟨t.nb, 0, none⟩) nn nn) := by rw [hnn]; exact Lib.cell_of_heap hT.1.1 5
  have t7 : w.cell? ⟨tb, 7, none⟩ = some (.slice (some ⟨t.rb, 0, none⟩) rn rn) := by rw [hrn]; exact Lib.cell_of_heap hT.1.1 7
  have htb := blk_ltT hT.1.1
  have mk1 := fun w => make_zer nn (by omega) w
  have mk2 := fun w => make_zer rn (by omega) w
  have KR : Hid (∀ (xb yb : Nat) (X Y : Nat → Int) (w' : World), Below w.heap.size w w' → IBk w' xb nn X → IBk w' yb rn Y → Calls Tryz.prog 42 #[.pointer (some ⟨tb, 0, none⟩), .slice (some ⟨xb, 0, none⟩) nn nn, .slice (some ⟨yb, 0, none⟩) rn rn] w' fun e w'' => ∃ pa ca pb cb, e = .returned (.tuple #[.slice pa (aL t hN hR X Y 0 t.g.rules).length ca, .slice pb (bL t hR X Y 0 t.g.rules).length cb]) ∧ Hid (Rw2 w'.heap.size w'' (.slice pa (aL t hN hR X Y 0 t.g.rules).length ca) (.slice pb (bL t hR X Y 0 t.g.rules).length cb) (aL t hN hR X Y 0 t.g.rules) (bL t hR X Y 0 t.g.rules)) ∧ Hid (Below w'.heap.size w' w'')) := fun xb yb X Y w' hb h1 h2 => by
    rw [hnn] at h1 ⊢
    rw [hrn] at h2 ⊢
    exact round_any t tb xb yb hN hR X Y w' (hT.any hb) h1 h2 hw hr256
  have HT0 : Hid (Ts F tb t hN hR w ∧ Tw t ∧ (∀ i, F i → i < w.heap.size ∧ i ≠ tb) ∧ nn = t.nn ∧ rn = t.rn) := ⟨hT, hw, hF, hnn, hrn⟩
  have hAl : ∀ X Y, (aL t hN hR X Y 0 t.g.rules).length ≤ 300000 := fun X Y => by
    have := aL_len (t := t) (hN := hN) (hR := hR) (X := X) (Y := Y) hw.m t.g.rules 0
    omega
  have hBl : ∀ X Y, (bL t hR X Y 0 t.g.rules).length ≤ 5000000 := fun X Y => by
    have h1 := bL_len (t := t) (hR := hR) (X := X) (Y := Y) hw.m t.g.rules 0
    have h2 : offR t.g.rules t.g.rules.length * 1089 ≤ 4000 * 1089 := Nat.mul_le_mul_right _ hw.z
    omega
  have HAB : Hid (∀ X Y, (aL t hN hR X Y 0 t.g.rules).length ≤ 300000 ∧ (bL t hR X Y 0 t.g.rules).length ≤ 5000000) := fun X Y => ⟨hAl X Y, hBl X Y⟩
  have HTBC : Hid (∀ w', Below w.heap.size w w' → w'.cell? ⟨tb, 5, none⟩ = some (.slice (some ⟨t.nb, 0, none⟩) nn nn) ∧ w'.cell? ⟨tb, 7, none⟩ = some (.slice (some ⟨t.rb, 0, none⟩) rn rn) ∧ ∀ j, w'.frozen? ⟨tb, j, none⟩ = false) := fun w' hb => ⟨(hb.cell (p := ⟨_, _, none⟩) htb).trans t5, (hb.cell (p := ⟨_, _, none⟩) htb).trans t7, fun j => by have := (hT.1.any hb).1; simp [World.frozen?, this]⟩
  clear hT hF hw hnn hrn hAl hBl hwd hr256
  have e5 : ∀ o, (w.alloc o).cell? ⟨tb, 5, none⟩ = some (.slice (some ⟨t.nb, 0, none⟩) nn nn) := fun o => (HTBC.out _ (bel1 _ _)).1
  have e7 : ∀ o, (w.alloc o).cell? ⟨tb, 7, none⟩ = some (.slice (some ⟨t.rb, 0, none⟩) rn rn) := fun o => (HTBC.out _ (bel1 _ _)).2.1
  go_enter Tryz.func26, Tryz.ntmps26
  go_wp2
  go_cut [2, 3] from 9 (fun p q wc => ∃ xb yb, p = .slice (some ⟨xb, 0, none⟩) nn nn ∧ q = .slice (some ⟨yb, 0, none⟩) rn rn ∧ Hid (w.heap.size ≤ xb ∧ w.heap.size ≤ yb ∧ xb ≠ yb) ∧ Hid (IBk wc xb nn (fun _ => 0)) ∧ Hid (IBk wc yb rn (fun _ => 0)) ∧ Hid (Below w.heap.size w wc))
  case first =>
    obtain ⟨ka, kb, kc⟩ := two_made w nn rn
    obtain ⟨la, lb, lc⟩ := two_made w rn nn
    have KA : Hid (IBk ((w.alloc (.cells (zerA nn) 3)).alloc (.cells (zerA rn) 3)).drew w.heap.size nn (fun _ => 0) ∧ IBk ((w.alloc (.cells (zerA nn) 3)).alloc (.cells (zerA rn) 3)).drew (w.heap.size + 1) rn (fun _ => 0) ∧ Below w.heap.size w ((w.alloc (.cells (zerA nn) 3)).alloc (.cells (zerA rn) 3)).drew) := ⟨ka, kb, kc⟩
    have LA : Hid (IBk ((w.alloc (.cells (zerA rn) 3)).alloc (.cells (zerA nn) 3)).drew w.heap.size rn (fun _ => 0) ∧ IBk ((w.alloc (.cells (zerA rn) 3)).alloc (.cells (zerA nn) 3)).drew (w.heap.size + 1) nn (fun _ => 0) ∧ Below w.heap.size w ((w.alloc (.cells (zerA rn) 3)).alloc (.cells (zerA nn) 3)).drew) := ⟨la, lb, lc⟩
    clear ka kb kc la lb lc
    go_region
    all_goals
      go_wp2
      go_meet
    · case rel => exact ⟨_, _, rfl, rfl, (by show _ ∧ _ ∧ _; omega), KA.out.1, KA.out.2.1, KA.out.2.2⟩
    · case rel => exact ⟨_, _, rfl, rfl, (by show _ ∧ _ ∧ _; omega), LA.out.2.1, LA.out.1, LA.out.2.2⟩
  case rest =>
    obtain ⟨xb, yb, rfl, rfl, HXY, HX, HY, HB⟩ := hcut
    clear t5 t7 e5 e7 mk1 mk2
    go_wp2
    go_loopg [4] (nn + rn) (fun gk y wr => ∃ n : Nat, y = .int .i64 ((n : Int) + 1) ∧ Hid (n + (zc nn (rkI t hN hR n).1 + zc rn (rkI t hN hR n).2) ≤ nn + rn ∧ zc nn (rkI t hN hR n).1 + zc rn (rkI t hN hR n).2 ≤ gk) ∧ Hid (IBk wr xb nn (rkI t hN hR n).1) ∧ Hid (IBk wr yb rn (rkI t hN hR n).2) ∧ Hid (Below w.heap.size w wr))
    case atStart =>
      refine ⟨0, by simp, ?_, HX, HY, HB⟩
      show _ ∧ _
      have e1 : (rkI t hN hR 0).1 = fun _ => 0 := rfl
      have e2 : (rkI t hN hR 0).2 = fun _ => 0 := rfl
      rw [e1, e2, zero_zc, zero_zc]; omega
    case round =>
      clear HX HY HB
      obtain ⟨n, rfl, HZ, HX, HY, HB⟩ := hrel
      have KR1 := KR.out xb yb _ _ wr HB.out HX.out HY.out
      have hl := HAB.out (rkI t hN hR n).1 (rkI t hN hR n).2
      obtain ⟨A, hA⟩ : ∃ A, A = aL t hN hR (rkI t hN hR n).1 (rkI t hN hR n).2 0 t.g.rules := ⟨_, rfl⟩
      obtain ⟨B, hBe⟩ : ∃ B, B = bL t hR (rkI t hN hR n).1 (rkI t hN hR n).2 0 t.g.rules := ⟨_, rfl⟩
      have HAE : Hid (A = aL t hN hR (rkI t hN hR n).1 (rkI t hN hR n).2 0 t.g.rules ∧ B = bL t hR (rkI t hN hR n).1 (rkI t hN hR n).2 0 t.g.rules) := ⟨hA, hBe⟩
      rw [← hA, ← hBe] at KR1 hl
      have HAX : Hid (∀ ix, ix ∈ A → (rkI t hN hR n).1 ix = 0 ∧ ix < nn) := fun ix h => by
        rw [hA] at h
        have := aL_zero h HT0.out.2.1
        rw [HT0.out.2.2.2.1]
        exact ⟨this.1, this.2.1⟩
      have HBX : Hid (∀ ix, ix ∈ B → (rkI t hN hR n).2 ix = 0 ∧ ix < rn) := fun ix h => by
        rw [hBe] at h
        have := bL_zero h
        rw [HT0.out.2.2.2.2]
        exact ⟨this.1, this.2.1⟩
      have HXN : Hid (putL A ((n : Int) + 1) (rkI t hN hR n).1 = (rkI t hN hR (n + 1)).1 ∧ putL B ((n : Int) + 1) (rkI t hN hR n).2 = (rkI t hN hR (n + 1)).2) := by rw [hA, hBe]; exact ⟨rfl, rfl⟩
      obtain ⟨LA, hLA⟩ : ∃ LA, LA = A.length := ⟨_, rfl⟩
      obtain ⟨LB, hLB⟩ : ∃ LB, LB = B.length := ⟨_, rfl⟩
      have HLA : Hid (LA = A.length ∧ LB = B.length) := ⟨hLA, hLB⟩
      rw [← hLA, ← hLB] at KR1 hl
      obtain ⟨hl1, hl2⟩ := hl
      have hn7 : n ≤ 10000000 := by have := HZ.out.1; omega
      clear hA hBe hLA hLB
      go_upto_if 33 with (go_at_call 42; refine KR1.mono ?_; rintro e w2 ⟨pa, ca, pb, cb, rfl, HRW, b2⟩)
      have HB2 : Hid (Below w.heap.size w w2) := HB.out.trans (b2.out.mono HB.out.size)
      have HX2 : Hid (IBk w2 xb nn (rkI t hN hR n).1) := HX.out.keep b2.out
      have HY2 : Hid (IBk w2 yb rn (rkI t hN hR n).2) := HY.out.keep b2.out
      have HXS : Hid (xb < wr.heap.size ∧ yb < wr.heap.size) := ⟨HX.out.lt, HY.out.lt⟩
      clear HX HY KR1
      by_cases h0 : LA + LB = 0
      · have e1 : ((LA : Int) + (LB : Int) == 0) = true := by rw [beq_iff_eq]; omega
        have HEND : Hid (RkEnd t hN hR n) := by
          have hla : A = [] := List.length_eq_zero_iff.1 (by have := HLA.out.1; omega)
          have hlb : B = [] := List.length_eq_zero_iff.1 (by have := HLA.out.2; omega)
          exact ⟨by rw [← HAE.out.1]; exact hla, by rw [← HAE.out.2]; exact hlb⟩
        obtain ⟨c5, c7, cf⟩ := HTBC.out w2 HB2.out
        have cf5 := cf 5
        have cf7 := cf 7
        have HFIN : Hid (Ts F tb (t.at xb yb) (rkI t hN hR n).1 (rkI t hN hR n).2 ((w2.setCell ⟨tb, 5, none⟩ (.slice (some ⟨xb, 0, none⟩) nn nn)).setCell ⟨tb, 7, none⟩ (.slice (some ⟨yb, 0, none⟩) rn rn))) := by
          obtain ⟨h1, h2, h3, h4, h5⟩ := HT0.out
          rw [h4, h5]
          exact fin_tb h1 h3 HB2.out (by rw [← h4]; exact HX2.out) (by rw [← h5]; exact HY2.out) HXY.out.1 HXY.out.2.1
        have HBT : Hid (Bt2 tb w ((w2.setCell ⟨tb, 5, none⟩ (.slice (some ⟨xb, 0, none⟩) nn nn)).setCell ⟨tb, 7, none⟩ (.slice (some ⟨yb, 0, none⟩) rn rn))) := by
          refine ⟨HB2.out.os, HB2.out.tape, HB2.out.output, by rw [Go.Deep.nblk_setCell, Go.Deep.nblk_setCell]; exact HB2.out.size, fun k hk hne => ?_⟩
          exact ((Go.Deep.blk_setCell_other _ ⟨tb, 7, none⟩ _ k hne).trans (Go.Deep.blk_setCell_other _ ⟨tb, 5, none⟩ _ k hne)).trans (HB2.out.block k hk)
        clear h0 cf HZ
        go_wp2
        go_end0
        exact ⟨n, xb, yb, rfl, HXY, HFIN, HEND, HBT⟩
      · have e1 : ((LA : Int) + (LB : Int) == 0) = false := by rw [beq_eq_false_iff_ne]; omega
        have hne : A.length + B.length ≠ 0 := by rw [← HLA.out.1, ← HLA.out.2]; exact h0
        have HLESS : Hid (zc nn (rkI t hN hR (n + 1)).1 + zc rn (rkI t hN hR (n + 1)).2 + 1 ≤ zc nn (rkI t hN hR n).1 + zc rn (rkI t hN hR n).2) := by
          have := round_less (r := (n : Int) + 1) (by omega) HAX.out HBX.out hne
          rw [HXN.out.1, HXN.out.2] at this
          exact this
        obtain ⟨X, hX⟩ : ∃ X, X = (rkI t hN hR n).1 := ⟨_, rfl⟩
        obtain ⟨Y, hY⟩ : ∃ Y, Y = (rkI t hN hR n).2 := ⟨_, rfl⟩
        rw [← hX] at HX2 HXN HAX HLESS HZ
        rw [← hY] at HY2 HXN HBX HLESS HZ
        clear h0 hne hX hY
        go_wp2
        go_loopw [7] (fun z wq => ∃ i : Nat, i ≤ LA ∧ z = .int .i64 i ∧ Hid (IBk wq xb nn (putL (A.take i) ((n : Int) + 1) X)) ∧ Hid (B2 xb yb w2 wq) ∧ Hid (IBk wq yb rn Y)) (fun z _ => LA - (intOf z).toNat)
        case atStart => exact ⟨0, Nat.zero_le _, rfl, by rw [List.take_zero, putL_nil]; exact HX2, B2.refl _ _ _, HY2⟩
        case round =>
          clear HX2 HY2
          obtain ⟨i, hi, rfl, HX2, HBB, HY2⟩ := hrel
          by_cases hlt : i < LA
          · obtain ⟨ix, hix⟩ : ∃ ix, A[i]? = some ix := ⟨_, List.getElem?_eq_getElem (by rw [← HLA.out.1]; exact hlt)⟩
            obtain ⟨g, o, hp, hg1, hg2, hcc⟩ := row_nums (by have := HRW.out.oa; rw [← HLA.out.1] at this; exact this) (by omega)
            subst hp
            have c0 := HBB.out.cell (hcc i ix hix) (by have := HXS.out; omega) (by have := HXS.out; omega)
            have hixn := (HAX.out ix (List.mem_of_getElem? hix)).2
            have c1 := HX2.out.cell hixn
            have f1 := HX2.out.frozen ix
            have HX3 : Hid (IBk (wr.setCell ⟨xb, ix, none⟩ (.int .i64 ((n : Int) + 1))) xb nn (putL (A.take (i + 1)) ((n : Int) + 1) X)) := by
              rw [putL_take hix]; exact HX2.out.put ix _
            have HY3 : Hid (IBk (wr.setCell ⟨xb, ix, none⟩ (.int .i64 ((n : Int) + 1))) yb rn Y) := HY2.out.blk (Go.Deep.blk_setCell_other _ ⟨xb, ix, none⟩ _ _ (Ne.symm HXY.out.2.2))
            have HB3 : Hid (B2 xb yb w2 (wr.setCell ⟨xb, ix, none⟩ (.int .i64 ((n : Int) + 1)))) := HBB.out.setX _ _
            have hixi : (ix : Int) < (nn : Int) := by omega
            generalize putL (A.take i) ((n : Int) + 1) X ix = zz at c1
            clear hcc hix HX2 HY2 HBB
            go_wp2
            go_roundw
            case rel => exact ⟨i + 1, by omega, by go_num, HX3, HB3, HY3⟩
            case measure => simp [intOf]; omega
          · obtain rfl : i = LA := by omega
            have HX3 : Hid (IBk wr xb nn (rkI t hN hR (n + 1)).1) := by
              have := HX2.out
              rw [HLA.out.1, List.take_length, HXN.out.1] at this
              exact this
            clear HX2
            go_wp2
            go_loopw [8] (fun z wq => ∃ j : Nat, j ≤ LB ∧ z = .int .i64 j ∧ Hid (IBk wq yb rn (putL (B.take j) ((n : Int) + 1) Y)) ∧ Hid (B2 xb yb w2 wq) ∧ Hid (IBk wq xb nn (rkI t hN hR (n + 1)).1)) (fun z _ => LB - (intOf z).toNat)
            case atStart => exact ⟨0, Nat.zero_le _, rfl, by rw [List.take_zero, putL_nil]; exact HY2, HBB, HX3⟩
            case round =>
              clear HX3 HY2 HBB
              obtain ⟨j, hj, rfl, HY2, HBB, HX3⟩ := hrel
              by_cases hlj : j < LB
              · obtain ⟨ix, hix⟩ : ∃ ix, B[j]? = some ix := ⟨_, List.getElem?_eq_getElem (by rw [← HLA.out.2]; exact hlj)⟩
                obtain ⟨g, o, hp, hg1, hg2, hcc⟩ := row_nums (by have := HRW.out.ob; rw [← HLA.out.2] at this; exact this) (by omega)
                subst hp
                have c0 := HBB.out.cell (hcc j ix hix) (by have := HXS.out; omega) (by have := HXS.out; omega)
                have hixn := (HBX.out ix (List.mem_of_getElem? hix)).2
                have c1 := HY2.out.cell hixn
                have f1 := HY2.out.frozen ix
                have HY3 : Hid (IBk (wr.setCell ⟨yb, ix, none⟩ (.int .i64 ((n : Int) + 1))) yb rn (putL (B.take (j + 1)) ((n : Int) + 1) Y)) := by
                  rw [putL_take hix]; exact HY2.out.put ix _
                have HX4 : Hid (IBk (wr.setCell ⟨yb, ix, none⟩ (.int .i64 ((n : Int) + 1))) xb nn (rkI t hN hR (n + 1)).1) := HX3.out.blk (Go.Deep.blk_setCell_other _ ⟨yb, ix, none⟩ _ _ HXY.out.2.2)
                have HB3 : Hid (B2 xb yb w2 (wr.setCell ⟨yb, ix, none⟩ (.int .i64 ((n : Int) + 1)))) := HBB.out.setY _ _
                have hixi : (ix : Int) < (rn : Int) := by omega
                generalize putL (B.take j) ((n : Int) + 1) Y ix = zz at c1
                clear hcc hix HX3 HY2 HBB
                go_wp2
                go_roundw
                case rel => exact ⟨j + 1, by omega, by go_num, HY3, HB3, HX4⟩
                case measure => simp [intOf]; omega
              · obtain rfl : j = LB := by omega
                have HY3 : Hid (IBk wr yb rn (rkI t hN hR (n + 1)).2) := by
                  have := HY2.out
                  rw [HLA.out.2, List.take_length, HXN.out.2] at this
                  exact this
                have HB4 : Hid (Below w.heap.size w wr) := HB2.out.trans (HBB.out.below HXY.out.1 HXY.out.2.1 HB2.out.size)
                have HZ2 : Hid (n + 1 + (zc nn (rkI t hN hR (n + 1)).1 + zc rn (rkI t hN hR (n + 1)).2) ≤ nn + rn ∧ zc nn (rkI t hN hR (n + 1)).1 + zc rn (rkI t hN hR (n + 1)).2 ≤ gk - 1 ∧ 0 < gk) := by
                  have h1 := HZ.out
                  have h2 := HLESS.out
                  show _ ∧ _ ∧ _
                  omega
                clear HY2
                go_wp2
                go_roundg (gk - 1)
                case measure => have := HZ2.out.2.2; omega
                case rel => exact ⟨n + 1, by push_cast; rfl, ⟨HZ2.out.1, HZ2.out.2.1⟩, HX3, HY3, HB4⟩
end Go.Proofs.YtejhdhlpdcfedaaGreat
