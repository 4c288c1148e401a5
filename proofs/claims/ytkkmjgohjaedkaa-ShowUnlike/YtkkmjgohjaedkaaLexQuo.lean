/- A text in quotes and a range, each byte as its two digits: what they are told as, whatever stands behind. No program in sight. -/
import Derived.Test.YtkkmjgohjaedkaaLexTold
import Derived.Test.YtkkmjgohjaedkaaLexWord
namespace Go.Proofs.Ytkkmjgohjaedkaa

/-- A piece that is one token, whatever stands behind it. -/
theorem told_tok (p : ByteArray) (t : Tok) (h0 : 0 < p.size) (h1 : PlainAid.bt p 0 ≠ 35) (h2 : ¬ (PlainAid.bt p 0 = 9 ∨ PlainAid.bt p 0 = 10 ∨ PlainAid.bt p 0 = 13 ∨ PlainAid.bt p 0 = 32))
    (h : ∀ (b : Nat → Int) (n : Nat), (∀ j, j < p.size → b j = PlainAid.bt p j) → p.size ≤ n → tokF b n 0 = .ok (t, p.size)) : Told p [t] := fun x hx => by
  have hz : (p ++ x).size = x.size + p.size := by rw [ByteArray.size_append]; omega
  have E1 : lexT (p ++ x) = lexK (PlainAid.bt (p ++ x)) (x.size + p.size) 0 := by rw [lexT, lexB, if_neg (by omega), hz]
  have E2 : lexT x = lexK (PlainAid.bt x) x.size 0 := by rw [lexT, lexB, if_neg (by omega)]
  have hb : ∀ j, j < p.size → PlainAid.bt (p ++ x) j = PlainAid.bt p j := fun j hj => bt_left _ _ _ hj
  have hs := lexK_sh (b := PlainAid.bt x) (b' := PlainAid.bt (p ++ x)) (d := p.size) (fun j => bt_right p x j) x.size 0
  rw [Nat.zero_add] at hs
  rw [E1, E2, lexK_eq _ _ 0 (Nat.zero_le _), skp_stay (by omega) (by rw [hb 0 h0]; exact h1) (by rw [hb 0 h0]; exact h2), lexA, if_neg (by omega), h _ _ hb (by omega)]
  show Res.cons t (lexK _ _ p.size) = _
  rw [hs]
  cases lexK (PlainAid.bt x) x.size 0 <;> rfl

def ALL : ByteArray := ⟨#[48, 49, 50, 51, 52, 53, 54, 55, 56, 57, 97, 98, 99, 100, 101, 102]⟩
theorem ALL_hex (q : Nat) (h : q < 16) : hexF (PlainAid.bt ALL q) = (q : Int) ∧ 0 ≤ PlainAid.bt ALL q ∧ PlainAid.bt ALL q ≤ 255 := by
  have : ∀ q : Fin 16, hexF (PlainAid.bt ALL q.val) = (q.val : Int) ∧ 0 ≤ PlainAid.bt ALL q.val ∧ PlainAid.bt ALL q.val ≤ 255 := by decide
  exact this ⟨q, h⟩
def hi4 (s : ByteArray) (j : Nat) : Nat := (PlainAid.bt s j).toNat / 16
def lo4 (s : ByteArray) (j : Nat) : Nat := (PlainAid.bt s j).toNat % 16
theorem hi4_lt (s : ByteArray) (j : Nat) : hi4 s j < 16 := by have := PlainAid.bt_le s j; have := PlainAid.bt_nonneg s j; unfold hi4; omega
theorem lo4_lt (s : ByteArray) (j : Nat) : lo4 s j < 16 := by unfold lo4; omega
theorem hilo (s : ByteArray) (j : Nat) : 16 * (hi4 s j : Int) + (lo4 s j : Int) = PlainAid.bt s j := by have := PlainAid.bt_nonneg s j; unfold hi4 lo4; omega
def two (p q : Nat) : ByteArray := strOf [PlainAid.bt ALL p, PlainAid.bt ALL q]
theorem two_size (p q : Nat) : (two p q).size = 2 := rfl
theorem two_bt (p q : Nat) (hp : p < 16) (hq : q < 16) : PlainAid.bt (two p q) 0 = PlainAid.bt ALL p ∧ PlainAid.bt (two p q) 1 = PlainAid.bt ALL q := by
  have h : ∀ p q : Fin 16, PlainAid.bt (two p.val q.val) 0 = PlainAid.bt ALL p.val ∧ PlainAid.bt (two p.val q.val) 1 = PlainAid.bt ALL q.val := by decide +kernel
  exact h ⟨p, hp⟩ ⟨q, hq⟩
def tx (s : ByteArray) : Nat → ByteArray
  | 0 => ⟨#[34]⟩
  | j + 1 => (tx s j ++ ⟨#[92, 120]⟩) ++ two (hi4 s j) (lo4 s j)
theorem tx_size (s : ByteArray) : ∀ j, (tx s j).size = 1 + 4 * j
  | 0 => rfl
  | j + 1 => by
    show ((tx s j ++ _) ++ _).size = _
    rw [ByteArray.size_append, ByteArray.size_append, tx_size s j, two_size]
    show 1 + 4 * j + 2 + 2 = _
    omega
theorem bt_mid (a x y : ByteArray) (k : Nat) (h : k < x.size) : PlainAid.bt ((a ++ x) ++ y) (a.size + k) = PlainAid.bt x k := by
  rw [bt_left _ _ _ (by rw [ByteArray.size_append]; omega), Nat.add_comm]
  exact bt_right a x k
theorem bt_last (a x y : ByteArray) (k : Nat) : PlainAid.bt ((a ++ x) ++ y) (a.size + x.size + k) = PlainAid.bt y k := by
  have := bt_right (a ++ x) y k
  rw [ByteArray.size_append] at this
  rw [Nat.add_comm]; exact this
theorem tx_bt (s : ByteArray) : ∀ j, PlainAid.bt (tx s j) 0 = 34 ∧ ∀ i, i < j → PlainAid.bt (tx s j) (1 + 4 * i) = 92 ∧ PlainAid.bt (tx s j) (2 + 4 * i) = 120 ∧ PlainAid.bt (tx s j) (3 + 4 * i) = PlainAid.bt ALL (hi4 s i) ∧ PlainAid.bt (tx s j) (4 + 4 * i) = PlainAid.bt ALL (lo4 s i)
  | 0 => ⟨rfl, fun i h => by omega⟩
  | j + 1 => by
    obtain ⟨h0, h1⟩ := tx_bt s j
    have hs := tx_size s j
    have hl : ∀ k, k < 1 + 4 * j → PlainAid.bt (tx s (j + 1)) k = PlainAid.bt (tx s j) k := fun k hk => by
      show PlainAid.bt ((tx s j ++ _) ++ _) k = _
      rw [bt_left _ _ _ (by rw [ByteArray.size_append]; omega), bt_left _ _ _ (by omega)]
    refine ⟨(hl 0 (by omega)).trans h0, fun i hi => ?_⟩
    by_cases e : i < j
    · obtain ⟨a, b, c, d⟩ := h1 i e
      exact ⟨(hl _ (by omega)).trans a, (hl _ (by omega)).trans b, (hl _ (by omega)).trans c, (hl _ (by omega)).trans d⟩
    · obtain rfl : i = j := by omega
      have m := bt_mid (tx s i) ⟨#[92, 120]⟩ (two (hi4 s i) (lo4 s i))
      have l := bt_last (tx s i) ⟨#[92, 120]⟩ (two (hi4 s i) (lo4 s i))
      have z : (⟨#[92, 120]⟩ : ByteArray).size = 2 := rfl
      obtain ⟨t0, t1⟩ := two_bt (hi4 s i) (lo4 s i) (hi4_lt s i) (lo4_lt s i)
      rw [hs] at m l
      rw [z] at l
      show PlainAid.bt ((tx s i ++ _) ++ _) _ = _ ∧ PlainAid.bt ((tx s i ++ _) ++ _) _ = _ ∧ PlainAid.bt ((tx s i ++ _) ++ _) _ = _ ∧ PlainAid.bt ((tx s i ++ _) ++ _) _ = _
      refine ⟨?_, ?_, ?_, ?_⟩
      · exact (m 0 (by decide)).trans rfl
      · rw [show 2 + 4 * i = 1 + 4 * i + 1 by omega]; exact (m 1 (by decide)).trans rfl
      · rw [show 3 + 4 * i = 1 + 4 * i + 2 + 0 by omega]; exact (l 0).trans t0
      · rw [show 4 + 4 * i = 1 + 4 * i + 2 + 1 by omega]; exact (l 1).trans t1
/-- One byte as its two digits. -/
theorem signF_hex (b : Nat → Int) (n k p q : Nat) (quote : Int) (hq : quote = 34 ∨ quote = 39) (hp : p < 16) (hq' : q < 16) (hn : k + 3 < n) (h0 : b k = 92) (h1 : b (k + 1) = 120) (h2 : b (k + 2) = PlainAid.bt ALL p) (h3 : b (k + 3) = PlainAid.bt ALL q) :
    signF b n k quote = some (16 * (p : Int) + (q : Int), k + 4) := by
  have e2 := (ALL_hex p hp).1
  have e3 := (ALL_hex q hq').1
  unfold signF
  rw [if_neg (by omega), if_neg (by omega), if_neg (by omega), if_neg (by omega), h2, h3, e2, e3, if_neg (by omega)]
theorem tx_text (s : ByteArray) (b : Nat → Int) (n : Nat) (hb : ∀ j, j < 1 + 4 * s.size → b j = PlainAid.bt (tx s s.size) j) (he : b (1 + 4 * s.size) = 34) (hn : 1 + 4 * s.size < n) :
    ∀ m i acc, s.size = i + m → textF b n (1 + 4 * i) acc = some (acc ++ (List.range m).map (fun k => PlainAid.bt s (i + k)), 2 + 4 * s.size)
  | 0, i, acc, h => by
    obtain rfl : i = s.size := by omega
    rw [textF_eq b n _ acc (by omega), if_pos ⟨hn, he⟩, show 1 + 4 * s.size + 1 = 2 + 4 * s.size by omega]
    simp
  | m + 1, i, acc, h => by
    obtain ⟨c0, c1, c2, c3⟩ := (tx_bt s s.size).2 i (by omega)
    rw [← hb _ (by omega)] at c0 c1 c2 c3
    have hx := signF_hex b n (1 + 4 * i) (hi4 s i) (lo4 s i) 34 (Or.inl rfl) (hi4_lt s i) (lo4_lt s i) (by omega) c0 (by rw [show 1 + 4 * i + 1 = 2 + 4 * i by omega]; exact c1) (by rw [show 1 + 4 * i + 2 = 3 + 4 * i by omega]; exact c2) (by rw [show 1 + 4 * i + 3 = 4 + 4 * i by omega]; exact c3)
    rw [textF_eq b n _ acc (by omega), if_neg (by rw [c0]; omega), hx]
    show textF b n (1 + 4 * i + 4) (acc ++ [_]) = _
    rw [show 1 + 4 * i + 4 = 1 + 4 * (i + 1) by omega, tx_text s b n hb he hn m (i + 1) _ (by omega), hilo, List.range_succ_eq_map, List.map_cons, List.map_map, List.append_assoc]
    congr 2
    simp only [List.cons_append, List.nil_append, Nat.add_zero]
    congr 2
    apply List.map_congr_left
    intro k _
    show PlainAid.bt s (i + 1 + k) = PlainAid.bt s (i + (k + 1))
    rw [show i + 1 + k = i + (k + 1) by omega]
theorem strOf_bt (s : ByteArray) : strOf ((List.range s.size).map (fun k => PlainAid.bt s (0 + k))) = s := by
  have := strOf_whole s ⟨#[]⟩
  rw [show s ++ (⟨#[]⟩ : ByteArray) = s from ByteArray.append_empty] at this
  exact this
theorem tx_told (s : ByteArray) : Told (tx s s.size ++ ⟨#[34]⟩) [⟨1, 0, s, 0, 0⟩] := by
  have hs := tx_size s s.size
  have hz : (tx s s.size ++ ⟨#[34]⟩ : ByteArray).size = 2 + 4 * s.size := by rw [ByteArray.size_append, hs]; show 1 + 4 * s.size + 1 = _; omega
  have hl : ∀ j, j < 1 + 4 * s.size → PlainAid.bt (tx s s.size ++ ⟨#[34]⟩) j = PlainAid.bt (tx s s.size) j := fun j hj => bt_left _ _ _ (by omega)
  have he : PlainAid.bt (tx s s.size ++ ⟨#[34]⟩) (1 + 4 * s.size) = 34 := by
    have := bt_right (tx s s.size) ⟨#[34]⟩ 0
    rw [hs, Nat.zero_add] at this
    rw [this]; rfl
  have h0 := (tx_bt s s.size).1
  refine told_tok _ _ (by omega) (by rw [hl 0 (by omega), h0]; decide) (by rw [hl 0 (by omega), h0]; decide) (fun b n hb hn => ?_)
  rw [hz] at hb hn ⊢
  have b0 : b 0 = 34 := by rw [hb 0 (by omega), hl 0 (by omega), h0]
  unfold tokF
  rw [b0, if_neg (by decide), if_pos rfl, textG]
  have ht := tx_text s b n (fun j hj => by rw [hb j (by omega), hl j hj]) (by rw [hb _ (by omega), he]) (by omega) s.size 0 [] (by omega)
  rw [show 1 + 4 * 0 = 0 + 1 from rfl] at ht
  rw [ht]
  simp only [List.nil_append]
  rw [strOf_bt]
def rgX (p q : Nat) : ByteArray := (⟨#[39, 92, 120]⟩ ++ two p q) ++ ⟨#[39]⟩
theorem rgX_size (p q : Nat) : (rgX p q).size = 6 := rfl
theorem rgX_bt (p q : Nat) (hp : p < 16) (hq : q < 16) : PlainAid.bt (rgX p q) 0 = 39 ∧ PlainAid.bt (rgX p q) 1 = 92 ∧ PlainAid.bt (rgX p q) 2 = 120 ∧ PlainAid.bt (rgX p q) 3 = PlainAid.bt ALL p ∧ PlainAid.bt (rgX p q) 4 = PlainAid.bt ALL q ∧ PlainAid.bt (rgX p q) 5 = 39 := by
  have h : ∀ p q : Fin 16, PlainAid.bt (rgX p.val q.val) 0 = 39 ∧ PlainAid.bt (rgX p.val q.val) 1 = 92 ∧ PlainAid.bt (rgX p.val q.val) 2 = 120 ∧ PlainAid.bt (rgX p.val q.val) 3 = PlainAid.bt ALL p.val ∧ PlainAid.bt (rgX p.val q.val) 4 = PlainAid.bt ALL q.val ∧ PlainAid.bt (rgX p.val q.val) 5 = 39 := by decide +kernel
  exact h ⟨p, hp⟩ ⟨q, hq⟩
def rgP (p q : Nat) : ByteArray := (rgX p q ++ ⟨#[46, 46]⟩) ++ rgX p q
theorem rgP_size (p q : Nat) : (rgP p q).size = 14 := rfl
theorem half_hex (b : Nat → Int) (n k p q : Nat) (hp : p < 16) (hq' : q < 16) (hn : k + 4 < n) (h0 : b k = 92) (h1 : b (k + 1) = 120) (h2 : b (k + 2) = PlainAid.bt ALL p) (h3 : b (k + 3) = PlainAid.bt ALL q) (h4 : b (k + 4) = 39) :
    half b n k = some (16 * (p : Int) + (q : Int), k + 5) := by
  unfold half
  rw [signF_hex b n k p q 39 (Or.inr rfl) hp hq' (by omega) h0 h1 h2 h3]
  show (if n ≤ k + 4 ∨ b (k + 4) ≠ 39 then none else some (_, k + 4 + 1)) = _
  rw [if_neg (by rw [h4]; omega)]
theorem rg_told (p q : Nat) (hp : p < 16) (hq : q < 16) : Told (rgP p q) [⟨2, 0, ⟨#[]⟩, 16 * (p : Int) + (q : Int), 16 * (p : Int) + (q : Int)⟩] := by
  obtain ⟨x0, x1, x2, x3, x4, x5⟩ := rgX_bt p q hp hq
  have hz := rgP_size p q
  have zx := rgX_size p q
  have l : ∀ k, k < 6 → PlainAid.bt (rgP p q) k = PlainAid.bt (rgX p q) k := fun k hk => by
    unfold rgP
    rw [bt_left _ _ _ (by rw [ByteArray.size_append]; omega), bt_left _ _ _ (by omega)]
  have m := bt_mid (rgX p q) ⟨#[46, 46]⟩ (rgX p q)
  have r := bt_last (rgX p q) ⟨#[46, 46]⟩ (rgX p q)
  have z2 : (⟨#[46, 46]⟩ : ByteArray).size = 2 := rfl
  rw [zx] at m r
  rw [z2] at r
  have m0 : PlainAid.bt (rgP p q) 6 = 46 := (m 0 (by decide)).trans rfl
  have m1 : PlainAid.bt (rgP p q) 7 = 46 := (m 1 (by decide)).trans rfl
  refine told_tok _ _ (by omega) (by rw [l 0 (by omega), x0]; decide) (by rw [l 0 (by omega), x0]; decide) (fun b n hb hn => ?_)
  rw [hz] at hb hn ⊢
  have b0 : b 0 = 39 := by rw [hb 0 (by omega), l 0 (by omega), x0]
  have b1 : b 1 = 92 := by rw [hb 1 (by omega), l 1 (by omega), x1]
  have b2 : b 2 = 120 := by rw [hb 2 (by omega), l 2 (by omega), x2]
  have b3 : b 3 = PlainAid.bt ALL p := by rw [hb 3 (by omega), l 3 (by omega), x3]
  have b4 : b 4 = PlainAid.bt ALL q := by rw [hb 4 (by omega), l 4 (by omega), x4]
  have b5 : b 5 = 39 := by rw [hb 5 (by omega), l 5 (by omega), x5]
  have b6 : b 6 = 46 := by rw [hb 6 (by omega), m0]
  have b7 : b 7 = 46 := by rw [hb 7 (by omega), m1]
  have b8 : b 8 = 39 := by rw [hb 8 (by omega)]; exact (r 0).trans x0
  have b9 : b 9 = 92 := by rw [hb 9 (by omega)]; exact (r 1).trans x1
  have b10 : b 10 = 120 := by rw [hb 10 (by omega)]; exact (r 2).trans x2
  have b11 : b 11 = PlainAid.bt ALL p := by rw [hb 11 (by omega)]; exact (r 3).trans x3
  have b12 : b 12 = PlainAid.bt ALL q := by rw [hb 12 (by omega)]; exact (r 4).trans x4
  have b13 : b 13 = 39 := by rw [hb 13 (by omega)]; exact (r 5).trans x5
  unfold tokF
  rw [b0, if_neg (by decide), if_neg (by decide), if_pos rfl, rangeG, rangeF, half_hex b n (0 + 1) p q hp hq (by omega) b1 b2 b3 b4 b5]
  have hd : dots b n 6 := dots_mk ⟨by omega, b6, b7⟩
  have ho : oneF b n (6 + 2) = some (16 * (p : Int) + (q : Int), 14) := by
    rw [oneF_half, if_neg (by rw [b8]; omega), half_hex b n (6 + 2 + 1) p q hp hq (by omega) b9 b10 b11 b12 b13]
  show (match (if dots b n 6 then match oneF b n (6 + 2) with
      | none => none
      | some (d, to2) => some (16 * (p : Int) + (q : Int), d, to2)
    else some (16 * (p : Int) + (q : Int), 16 * (p : Int) + (q : Int), 6)) with
    | none => Got.noText
    | some (c, d, to) => Got.tok ⟨2, 0, ⟨#[]⟩, c, d⟩ to) = _
  rw [if_pos hd, ho]
/-- The whole. -/
theorem texts_lex (s : ByteArray) (p q : Nat) (hp : p < 16) (hq : q < 16) (hs : s.size ≤ 2000) :
    lexT ((((tx s s.size ++ ⟨#[34]⟩) ++ rgX p q) ++ ⟨#[46, 46]⟩) ++ rgX p q) = .ok [⟨1, 0, s, 0, 0⟩, ⟨2, (tx s s.size).size + 1, ⟨#[]⟩, 16 * (p : Int) + (q : Int), 16 * (p : Int) + (q : Int)⟩] := by
  have h := (tx_told s).app (rg_told p q hp hq)
  have hz : (tx s s.size ++ ⟨#[34]⟩ : ByteArray).size = (tx s s.size).size + 1 := by rw [ByteArray.size_append]; rfl
  have h2 := h.out (by rw [ByteArray.size_append, hz, tx_size, rgP_size]; omega)
  rw [hz] at h2
  have e : (((tx s s.size ++ ⟨#[34]⟩) ++ rgX p q) ++ ⟨#[46, 46]⟩) ++ rgX p q = (tx s s.size ++ ⟨#[34]⟩) ++ rgP p q := by
    unfold rgP; simp only [ByteArray.append_assoc]
  rw [e, h2]
  simp [Tok.sh]
end Go.Proofs.Ytkkmjgohjaedkaa
