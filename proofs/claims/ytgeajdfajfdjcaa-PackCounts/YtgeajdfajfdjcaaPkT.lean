/- Proofs as bytes, as plain functions: what is written, what is read, there and back. No program in sight. -/
import Derived.Test.YtgeajdfajfdjcaaPlain
namespace Go.Proofs.Ytgeajdfajfdjcaa
set_option linter.unusedVariables false

structure Pk where
  at_ : Int
  conj : Int
  kids : List Int
structure Nd where
  sign : Bool
  kind : Int
  name : Int
  rule : Int
  conj : Int
  pos : Int
  i : Int
  j : Int
  rank : Int
  picks : List Pk
structure Ct where
  root : Int
  nodes : List Nd

def fitZ (k : Nat) (z : Int) : Bool := decide (0 ≤ z) && decide (z < 256 ^ k)
def beZ : Nat → Int → List UInt8
  | 0, _ => []
  | k + 1, z => UInt8.ofNat (z / 256 ^ k % 256).toNat :: beZ k z
def valB (l : List UInt8) : Int := l.foldl (fun v b => v * 256 + (b.toNat : Int)) 0

theorem beZ_len : ∀ (k : Nat) (z : Int), (beZ k z).length = k
  | 0, _ => rfl
  | k + 1, z => by simp [beZ, beZ_len k z]
theorem valB_fold : ∀ (l : List UInt8) (v : Int), l.foldl (fun v b => v * 256 + (b.toNat : Int)) v = v * 256 ^ l.length + valB l
  | [], v => by simp [valB]
  | b :: l, v => by
    unfold valB
    simp only [List.foldl_cons, List.length_cons]
    rw [valB_fold l, valB_fold l (0 * 256 + _), Int.pow_succ]
    rw [Int.add_mul, Int.zero_mul, Int.zero_add, Int.mul_assoc, Int.mul_comm (256 : Int) (256 ^ l.length), Int.add_assoc]
theorem valB_cons (b : UInt8) (l : List UInt8) : valB (b :: l) = (b.toNat : Int) * 256 ^ l.length + valB l := by
  conv => lhs; unfold valB
  rw [List.foldl_cons, valB_fold]
  simp
theorem valB_snoc (l : List UInt8) (b : UInt8) : valB (l ++ [b]) = valB l * 256 + (b.toNat : Int) := by
  unfold valB; simp
theorem pow_pos256 (k : Nat) : (0 : Int) < 256 ^ k := by
  induction k with
  | zero => simp
  | succ k ih => rw [Int.pow_succ]; omega
theorem valB_range : ∀ l : List UInt8, 0 ≤ valB l ∧ valB l < 256 ^ l.length
  | [] => by simp [valB]
  | b :: l => by
    have ih := valB_range l
    rw [valB_cons, List.length_cons, Int.pow_succ]
    have hb : b.toNat < 256 := b.toNat_lt
    have hp := pow_pos256 l.length
    have h0 : (0 : Int) ≤ (b.toNat : Int) * 256 ^ l.length := Int.mul_nonneg (by omega) (by omega)
    have h1 : (b.toNat : Int) * 256 ^ l.length ≤ 255 * 256 ^ l.length := Int.mul_le_mul_of_nonneg_right (by omega) (by omega)
    omega
theorem toNat_ofNat8 (z : Int) : ((UInt8.ofNat (z % 256).toNat).toNat : Int) = z % 256 := by
  have : (z % 256).toNat < 256 := by omega
  simp only [UInt8.toNat_ofNat', Nat.reducePow]
  omega
theorem valB_beZ : ∀ (k : Nat) (z : Int), valB (beZ k z) = z % 256 ^ k
  | 0, z => by simp [beZ, valB, Int.emod_one]
  | k + 1, z => by
    rw [beZ, valB_cons, beZ_len, valB_beZ k z, toNat_ofNat8]
    have hp := pow_pos256 k
    rw [Int.pow_succ, Int.emod_def z (256 ^ k * 256), ← Int.ediv_ediv_of_nonneg (by omega), Int.emod_def z (256 ^ k), Int.emod_def (z / 256 ^ k) 256]
    generalize z / 256 ^ k = q
    rw [Int.sub_mul, Int.mul_comm q, Int.mul_assoc 256 (q / 256), Int.mul_comm 256 (q / 256 * 256 ^ k)]
    rw [show (256 : Int) ^ k * 256 * (q / 256) = q / 256 * 256 ^ k * 256 by rw [Int.mul_assoc, Int.mul_comm 256 (q / 256), ← Int.mul_assoc, Int.mul_comm (256 ^ k) (q / 256)]]
    omega
theorem beZ_mod : ∀ (k m : Nat) (z : Int), k ≤ m → beZ k (z % 256 ^ m) = beZ k z
  | 0, _, _, _ => rfl
  | k + 1, m, z, h => by
    rw [beZ, beZ, beZ_mod k m z (by omega)]
    congr 3
    obtain ⟨d, rfl⟩ : ∃ d, m = k + 1 + d := ⟨m - (k + 1), by omega⟩
    have hp := pow_pos256 k
    rw [Int.pow_add, Int.pow_succ, Int.mul_assoc, Int.emod_def z, Int.mul_assoc (256 ^ k), Int.mul_assoc 256]
    rw [Int.sub_eq_add_neg, ← Int.mul_neg, Int.add_mul_ediv_left _ _ (by omega), ← Int.mul_neg, Int.add_mul_emod_self_left]
theorem beZ_valB : ∀ l : List UInt8, beZ l.length (valB l) = l
  | [] => rfl
  | b :: l => by
    have hr := valB_range l
    have hp := pow_pos256 l.length
    have hb : b.toNat < 256 := b.toNat_lt
    rw [List.length_cons, beZ, valB_cons]
    congr 1
    · rw [Int.mul_comm, Int.add_comm, Int.add_mul_ediv_left _ _ (by omega), Int.ediv_eq_zero_of_lt hr.1 hr.2, Int.zero_add]
      rw [show ((b.toNat : Int) % 256).toNat = b.toNat by omega]
      exact UInt8.ofNat_toNat
    · have := beZ_mod l.length l.length ((b.toNat : Int) * 256 ^ l.length + valB l) (Nat.le_refl _)
      rw [← this, Int.add_comm, Int.add_mul_emod_self_right, Int.emod_eq_of_lt hr.1 hr.2]
      exact beZ_valB l
theorem valB_be {k : Nat} {z : Int} (h : fitZ k z = true) : valB (beZ k z) = z := by
  unfold fitZ at h
  simp only [Bool.and_eq_true, decide_eq_true_eq] at h
  rw [valB_beZ, Int.emod_eq_of_lt h.1 h.2]

/-! ### Reading -/
abbrev PRd (α : Type) := List UInt8 → Option (α × List UInt8)
def numR (k : Nat) : PRd Int := fun l => if l.length < k then none else some (valB (l.take k), l.drop k)
def manyR {α : Type} (R : PRd α) : Nat → PRd (List α)
  | 0, l => some ([], l)
  | m + 1, l => match R l with
    | none => none
    | some (a, r) => match manyR R m r with
      | none => none
      | some (as, r') => some (a :: as, r')
/-- What R reads is what B writes of what may be. -/
structure PCodec {α : Type} (ok : α → Bool) (B : α → List UInt8) (R : PRd α) : Prop where
  there : ∀ a l, ok a = true → R (B a ++ l) = some (a, l)
  back : ∀ l a r, R l = some (a, r) → ok a = true ∧ l = B a ++ r
theorem num_codec (k : Nat) : PCodec (fitZ k) (beZ k) (numR k) where
  there := fun z l h => by
    unfold numR
    rw [if_neg (by simp [beZ_len]), List.take_append_of_le_length (by simp [beZ_len]), List.drop_append_of_le_length (by simp [beZ_len])]
    rw [List.take_of_length_le (by simp [beZ_len]), List.drop_of_length_le (by simp [beZ_len]), valB_be h]
    rfl
  back := fun l a r h => by
    unfold numR at h
    split at h
    · cases h
    · rename_i hl
      obtain ⟨rfl, rfl⟩ : valB (l.take k) = a ∧ l.drop k = r := by simpa using h
      have hlen : (l.take k).length = k := by simp; omega
      have hr := valB_range (l.take k)
      rw [hlen] at hr
      have hb := beZ_valB (l.take k)
      rw [hlen] at hb
      exact ⟨by unfold fitZ; simp [hr.1, hr.2], by rw [hb, List.take_append_drop]⟩
theorem many_codec {α : Type} {ok : α → Bool} {B : α → List UInt8} {R : PRd α} (c : PCodec ok B R) :
    (∀ (as : List α) l, as.all ok = true → manyR R as.length (as.flatMap B ++ l) = some (as, l)) ∧ ∀ m l as r, manyR R m l = some (as, r) → as.length = m ∧ as.all ok = true ∧ l = as.flatMap B ++ r := by
  constructor
  · intro as
    induction as with
    | nil => intro l _; rfl
    | cons a as ih =>
      intro l h
      simp only [List.all_cons, Bool.and_eq_true] at h
      simp only [List.length_cons, manyR, List.flatMap_cons, List.append_assoc, c.there a _ h.1, ih l h.2]
  · intro m
    induction m with
    | zero =>
      intro l as r h
      obtain ⟨rfl, rfl⟩ : [] = as ∧ l = r := by simpa [manyR] using h
      exact ⟨rfl, rfl, rfl⟩
    | succ m ih =>
      intro l as r h
      unfold manyR at h
      split at h
      · cases h
      · rename_i a r1 h1
        split at h
        · cases h
        · rename_i as1 r2 h2
          obtain ⟨rfl, rfl⟩ : a :: as1 = as ∧ r2 = r := by simpa using h
          obtain ⟨i1, i2, i3⟩ := ih r1 as1 r2 h2
          obtain ⟨j1, j2⟩ := c.back l a r1 h1
          exact ⟨by simp [i1], by simp [j1, i2], by rw [j2, i3]; simp⟩
theorem manyR_add {α : Type} (R : PRd α) : ∀ (m n : Nat) (l : List UInt8), manyR R (m + n) l = match manyR R m l with
    | none => none
    | some (as, r) => match manyR R n r with
      | none => none
      | some (bs, r') => some (as ++ bs, r')
  | 0, n, l => by
    simp only [Nat.zero_add, manyR, List.nil_append]
    cases manyR R n l with
    | none => rfl
    | some p => rfl
  | m + 1, n, l => by
    rw [show m + 1 + n = m + n + 1 by omega]
    simp only [manyR]
    cases h : R l with
    | none => rfl
    | some p =>
      obtain ⟨a, r⟩ := p
      simp only [manyR_add R m n r]
      cases manyR R m r with
      | none => rfl
      | some q =>
        obtain ⟨as, r'⟩ := q
        simp only
        cases manyR R n r' with
        | none => rfl
        | some q => rfl
/-- A loop that has read 'as' and stands before r. -/
def fromR {α : Type} (R : PRd α) (as : List α) (m : Nat) (r : List UInt8) : Option (List α × List UInt8) := match manyR R m r with
  | none => none
  | some (bs, r') => some (as ++ bs, r')
theorem fromR_nil {α : Type} (R : PRd α) (m : Nat) (l : List UInt8) : fromR R [] m l = manyR R m l := by
  unfold fromR
  cases manyR R m l with
  | none => rfl
  | some p => rfl
theorem fromR_zero {α : Type} (R : PRd α) (as : List α) (l : List UInt8) : fromR R as 0 l = some (as, l) := by simp [fromR, manyR]
theorem fromR_no {α : Type} {R : PRd α} {as : List α} {m : Nat} {r : List UInt8} (h : R r = none) : fromR R as (m + 1) r = none := by simp [fromR, manyR, h]
theorem fromR_yes {α : Type} {R : PRd α} {as : List α} {m : Nat} {r r' : List UInt8} {a : α} (h : R r = some (a, r')) : fromR R as (m + 1) r = fromR R (as ++ [a]) m r' := by
  simp only [fromR, manyR, h]
  cases manyR R m r' with
  | none => rfl
  | some p => simp

/-! ### Picks, nodes, proofs -/
def pkOk (p : Pk) : Bool := fitZ 2 p.at_ && fitZ 1 p.conj && fitZ 1 p.kids.length && p.kids.all (fitZ 4)
def pkB (p : Pk) : List UInt8 := beZ 2 p.at_ ++ (beZ 1 p.conj ++ (beZ 1 p.kids.length ++ p.kids.flatMap (beZ 4)))
def pkR : PRd Pk := fun l => match manyR (numR 2) 1 l with
  | some ([a], l1) => match manyR (numR 1) 2 l1 with
    | some ([c, n], l2) => match manyR (numR 4) n.toNat l2 with
      | some (ks, l3) => some (⟨a, c, ks⟩, l3)
      | none => none
    | _ => none
  | _ => none
def sgZ (b : Bool) : Int := if b then 1 else 0
def isNd (n : Nd) : Bool := (decide (n.kind = 0) && (decide (n.rule = 0) && decide (n.conj = 0) && decide (n.pos = 0))) || (decide (n.kind = 1) && decide (n.name = 0))
def hdOk (n : Nd) : Bool := isNd n && fitZ 2 n.name && fitZ 2 n.rule && fitZ 1 n.conj && fitZ 1 n.pos && fitZ 1 n.i && fitZ 1 n.j && fitZ 4 n.rank && fitZ 2 n.picks.length
def ndOk (n : Nd) : Bool := hdOk n && n.picks.all pkOk
def hdB (n : Nd) : List UInt8 := beZ 1 (sgZ n.sign) ++ (beZ 1 n.kind ++ (beZ 2 n.name ++ (beZ 2 n.rule ++ (beZ 1 n.conj ++ (beZ 1 n.pos ++ (beZ 1 n.i ++ (beZ 1 n.j ++ (beZ 4 n.rank ++ beZ 2 n.picks.length))))))))
def ndB (n : Nd) : List UInt8 := hdB n ++ n.picks.flatMap pkB
def ndR : PRd Nd := fun l => match manyR (numR 1) 2 l with
  | some ([s, k], l1) => match manyR (numR 2) 2 l1 with
    | some ([nm, r], l2) => match manyR (numR 1) 4 l2 with
      | some ([c, p, i, j], l3) => match manyR (numR 4) 1 l3 with
        | some ([rk], l4) => match manyR (numR 2) 1 l4 with
          | some ([np], l5) => if decide (1 < s) || !isNd ⟨decide (s = 1), k, nm, r, c, p, i, j, rk, []⟩ then none else match manyR pkR np.toNat l5 with
            | some (ps, l6) => some (⟨decide (s = 1), k, nm, r, c, p, i, j, rk, ps⟩, l6)
            | none => none
          | _ => none
        | _ => none
      | _ => none
    | _ => none
  | _ => none
def ctOk (c : Ct) : Bool := fitZ 4 c.root && fitZ 4 c.nodes.length && c.nodes.all ndOk
def ctB (c : Ct) : List UInt8 := [84, 67] ++ (beZ 4 c.root ++ (beZ 4 c.nodes.length ++ c.nodes.flatMap ndB))
/-- What is read of a proof, and what stands behind it. -/
def ctR0 : PRd Ct := fun l => if l.take 2 = [84, 67] then match manyR (numR 4) 2 (l.drop 2) with
    | some ([r, n], l1) => if 65536 < n then none else match manyR ndR n.toNat l1 with
      | some (ns, l2) => some (⟨r, ns⟩, l2)
      | none => none
    | _ => none
  else none
def ctR (l : List UInt8) : Option Ct := match ctR0 l with
  | some (c, []) => some c
  | _ => none
def putT (c : Ct) : List UInt8 × Int := if ctOk c then (if 65536 < c.nodes.length ∨ 1048576 < (ctB c).length then ([], 1801) else (ctB c, 0)) else ([], 1800)
def getT (s : List UInt8) : Ct × Int := if 1048576 < s.length then (⟨0, []⟩, 1801) else match ctR s with
  | none => (⟨0, []⟩, 1800)
  | some c => (c, 0)

theorem one_num {k : Nat} {z : Int} {l : List UInt8} (h : fitZ k z = true) : manyR (numR k) 1 (beZ k z ++ l) = some ([z], l) := by
  have := (many_codec (num_codec k)).1 [z] l (by simp [h])
  simpa using this
theorem two_num {k : Nat} {y z : Int} {l : List UInt8} (h : fitZ k y = true) (h' : fitZ k z = true) : manyR (numR k) 2 (beZ k y ++ (beZ k z ++ l)) = some ([y, z], l) := by
  have := (many_codec (num_codec k)).1 [y, z] l (by simp [h, h'])
  simpa using this
theorem four_num {k : Nat} {a b y z : Int} {l : List UInt8} (h1 : fitZ k a = true) (h2 : fitZ k b = true) (h : fitZ k y = true) (h' : fitZ k z = true) : manyR (numR k) 4 (beZ k a ++ (beZ k b ++ (beZ k y ++ (beZ k z ++ l)))) = some ([a, b, y, z], l) := by
  have := (many_codec (num_codec k)).1 [a, b, y, z] l (by simp [h, h', h1, h2])
  simpa using this
theorem fit_nat {k : Nat} {n : Int} (h : fitZ k n = true) : 0 ≤ n := by unfold fitZ at h; simp only [Bool.and_eq_true, decide_eq_true_eq] at h; exact h.1
theorem pk_codec : PCodec pkOk pkB pkR where
  there := fun p l h => by
    unfold pkOk at h
    simp only [Bool.and_eq_true] at h
    unfold pkR pkB
    simp only [List.append_assoc, one_num h.1.1.1, two_num h.1.1.2 h.1.2, Int.toNat_natCast, (many_codec (num_codec 4)).1 p.kids l h.2]
  back := fun l a r h => by
    unfold pkR at h
    split at h
    · rename_i a1 l1 h1
      split at h
      · rename_i c n l2 h2
        split at h
        · rename_i ks l3 h3
          obtain ⟨rfl, rfl⟩ : (⟨a1, c, ks⟩ : Pk) = a ∧ l3 = r := by simpa using h
          obtain ⟨-, i2, i3⟩ := (many_codec (num_codec 2)).2 _ _ _ _ h1
          obtain ⟨-, j2, j3⟩ := (many_codec (num_codec 1)).2 _ _ _ _ h2
          obtain ⟨k1, k2, k3⟩ := (many_codec (num_codec 4)).2 _ _ _ _ h3
          simp only [List.all_cons, List.all_nil, Bool.and_true, Bool.and_eq_true] at i2 j2
          have hn := fit_nat j2.2
          have e : ((ks.length : Nat) : Int) = n := by omega
          refine ⟨by unfold pkOk; simp [i2, j2, e, k2], ?_⟩
          rw [i3, j3, k3]; unfold pkB; simp [e]
        · cases h
      · cases h
    · cases h
theorem sg_fit (b : Bool) : fitZ 1 (sgZ b) = true := by cases b <;> rfl
theorem isNd_kind {n : Nd} (h : isNd n = true) : fitZ 1 n.kind = true := by
  unfold isNd at h
  simp only [Bool.or_eq_true, Bool.and_eq_true, decide_eq_true_eq] at h
  rcases h with h | h
  · rw [h.1]; rfl
  · rw [h.1]; rfl
theorem sg_one (b : Bool) : decide (sgZ b = 1) = b := by cases b <;> rfl
theorem sg_le (b : Bool) : decide (1 < sgZ b) = false := by cases b <;> rfl
theorem nd_codec : PCodec ndOk ndB ndR where
  there := fun n l h => by
    unfold ndOk hdOk at h
    simp only [Bool.and_eq_true] at h
    obtain ⟨⟨⟨⟨⟨⟨⟨⟨⟨h0, h1⟩, h2⟩, h3⟩, h4⟩, h5⟩, h6⟩, h7⟩, h8⟩, h9⟩ := h
    have hi : isNd ⟨n.sign, n.kind, n.name, n.rule, n.conj, n.pos, n.i, n.j, n.rank, []⟩ = true := h0
    unfold ndR ndB hdB
    simp only [List.append_assoc, two_num (sg_fit n.sign) (isNd_kind h0), two_num h1 h2, four_num h3 h4 h5 h6, one_num h7, one_num h8, sg_le, sg_one, hi, Bool.not_true, Bool.or_self, Bool.false_eq_true, if_false, Int.toNat_natCast, (many_codec pk_codec).1 n.picks l h9]
  back := fun l a r h => by
    unfold ndR at h
    split at h
    · rename_i s k l1 h1
      split at h
      · rename_i nm ru l2 h2
        split at h
        · rename_i c p i j l3 h3
          split at h
          · rename_i rk l4 h4
            split at h
            · rename_i np l5 h5
              split at h
              · cases h
              · rename_i hc
                split at h
                · rename_i ps l6 h6
                  obtain ⟨rfl, rfl⟩ : (⟨decide (s = 1), k, nm, ru, c, p, i, j, rk, ps⟩ : Nd) = a ∧ l6 = r := by simpa using h
                  obtain ⟨-, i2, i3⟩ := (many_codec (num_codec 1)).2 _ _ _ _ h1
                  obtain ⟨-, j2, j3⟩ := (many_codec (num_codec 2)).2 _ _ _ _ h2
                  obtain ⟨-, k2, k3⟩ := (many_codec (num_codec 1)).2 _ _ _ _ h3
                  obtain ⟨-, m2, m3⟩ := (many_codec (num_codec 4)).2 _ _ _ _ h4
                  obtain ⟨-, n2, n3⟩ := (many_codec (num_codec 2)).2 _ _ _ _ h5
                  obtain ⟨p1, p2, p3⟩ := (many_codec pk_codec).2 _ _ _ _ h6
                  simp only [List.all_cons, List.all_nil, Bool.and_true, Bool.and_eq_true] at i2 j2 k2 m2 n2
                  simp only [Bool.or_eq_true, decide_eq_true_eq, Bool.not_eq_true', not_or, Bool.not_eq_false] at hc
                  have hs := fit_nat i2.1
                  have hn := fit_nat n2
                  have e : ((ps.length : Nat) : Int) = np := by omega
                  have es : sgZ (decide (s = 1)) = s := by
                    by_cases h1 : s = 1
                    · subst h1; rfl
                    · have : s = 0 := by omega
                      subst this; rfl
                  refine ⟨by
                    have hi : isNd ⟨decide (s = 1), k, nm, ru, c, p, i, j, rk, ps⟩ = true := hc.2
                    unfold ndOk hdOk
                    simp only [hi, j2, k2, m2, n2, e, p2, Bool.and_self], ?_⟩
                  rw [i3, j3, k3, m3, n3, p3]; unfold ndB hdB; simp [e, es]
                · cases h
            · cases h
          · cases h
        · cases h
      · cases h
    · cases h
theorem ct_there (c : Ct) (l : List UInt8) (h : ctOk c = true) (h' : c.nodes.length ≤ 65536) : ctR0 (ctB c ++ l) = some (c, l) := by
  unfold ctOk at h
  simp only [Bool.and_eq_true] at h
  unfold ctR0 ctB
  have e : ¬ (65536 : Int) < (c.nodes.length : Int) := by omega
  simp only [List.append_assoc, List.cons_append, List.nil_append, List.take_succ_cons, List.take_zero, if_true, List.drop_succ_cons, List.drop_zero, two_num h.1.1 h.1.2, if_neg e, Int.toNat_natCast, (many_codec nd_codec).1 c.nodes l h.2]
theorem ct_back (l : List UInt8) (c : Ct) (r : List UInt8) (h : ctR0 l = some (c, r)) : ctOk c = true ∧ c.nodes.length ≤ 65536 ∧ l = ctB c ++ r := by
  unfold ctR0 at h
  split at h
  · rename_i ht
    split at h
    · rename_i ro n l1 h1
      split at h
      · cases h
      · rename_i hn
        split at h
        · rename_i ns l2 h2
          obtain ⟨rfl, rfl⟩ : (⟨ro, ns⟩ : Ct) = c ∧ l2 = r := by simpa using h
          obtain ⟨-, i2, i3⟩ := (many_codec (num_codec 4)).2 _ _ _ _ h1
          obtain ⟨k1, k2, k3⟩ := (many_codec nd_codec).2 _ _ _ _ h2
          simp only [List.all_cons, List.all_nil, Bool.and_true, Bool.and_eq_true] at i2
          have hz := fit_nat i2.2
          have e : ((ns.length : Nat) : Int) = n := by omega
          refine ⟨by unfold ctOk; simp [i2, e, k2], by simp only; omega, ?_⟩
          rw [← List.take_append_drop 2 l, ht, i3, k3]; unfold ctB; simp [e]
        · cases h
    · cases h
  · cases h
theorem ctR_there (c : Ct) (h : ctOk c = true) (h' : c.nodes.length ≤ 65536) : ctR (ctB c) = some c := by
  have := ct_there c [] h h'
  unfold ctR
  rw [List.append_nil] at this
  rw [this]
theorem ctR_back {l : List UInt8} {c : Ct} (h : ctR l = some c) : ctOk c = true ∧ c.nodes.length ≤ 65536 ∧ l = ctB c := by
  unfold ctR at h
  split at h
  · rename_i c' h1
    obtain rfl : c' = c := by simpa using h
    have := ct_back _ _ _ h1
    simpa using this
  · cases h
/-- What stands behind a proof, and what is cut off, is told. -/
theorem ctR_more (c : Ct) (x : UInt8) (l : List UInt8) (h : ctOk c = true) (h' : c.nodes.length ≤ 65536) : ctR (ctB c ++ x :: l) = none := by
  unfold ctR; rw [ct_there c _ h h']
theorem ctR_cut (c : Ct) (k : Nat) (h : ctOk c = true) (h' : c.nodes.length ≤ 65536) (hk : k < (ctB c).length) : ctR ((ctB c).take k) = none := by
  cases e : ctR ((ctB c).take k) with
  | none => rfl
  | some d =>
    obtain ⟨h1, h2, h3⟩ := ctR_back e
    have h4 := ct_there d ((ctB c).drop k) h1 h2
    rw [← h3, List.take_append_drop] at h4
    have h5 := ct_there c [] h h'
    rw [List.append_nil, h4] at h5
    have : (ctB c).drop k = [] := by
      have := Option.some.inj h5
      exact (Prod.mk.inj this).2
    have := List.length_drop (i := k) (l := ctB c)
    simp_all
    omega
end Go.Proofs.Ytgeajdfajfdjcaa
