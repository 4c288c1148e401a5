/- Where tokens begin, and with which byte. No program in sight. -/
import Derived.Test.YtopnhbgialbicaaLexTok
namespace Go.Proofs.Ytopnhbgialbicaa

/-- A token that begins at lo or behind it, in the text, with a byte of its kind. -/
structure Begun (b : Nat → Int) (n lo : Nat) (t : Tok) : Prop where
  lo : lo ≤ t.pl
  hi : t.pl < n
  kd : t.kind ≤ 8
  h0 : t.kind = 0 → 0 < t.text.size ∧ PlainAid.bt t.text 0 = b t.pl
  h1 : t.kind = 1 → b t.pl = 34
  h2 : t.kind = 2 → b t.pl = 39
  h3 : t.kind = 3 → b t.pl = 115
  h4 : t.kind = 4 → b t.pl = 61
  h5 : t.kind = 5 → b t.pl = 124
  h6 : t.kind = 6 → b t.pl = 38
  h7 : t.kind = 7 → b t.pl = 126
  h8 : t.kind = 8 → b t.pl = 59
def Row (b : Nat → Int) (n : Nat) : Nat → List Tok → Prop
  | _, [] => True
  | lo, t :: l => Begun b n lo t ∧ Row b n (t.pl + 1) l

theorem strOf_head (c : Int) (l : List Int) (h : 0 ≤ c ∧ c ≤ 255) : 0 < (strOf (c :: l)).size ∧ PlainAid.bt (strOf (c :: l)) 0 = c := by
  have hs : (strOf (c :: l)).size = l.length + 1 := by simp [strOf, ByteArray.size]
  refine ⟨by omega, ?_⟩
  unfold PlainAid.bt
  rw [dif_pos (by omega)]
  show ((UInt8.ofNat c.toNat).toNat : Int) = c
  rw [UInt8.toNat_ofNat']
  omega
theorem start_head (c : Int) (l : List Int) (h : 0 ≤ c ∧ c ≤ 255) (hs : isStart (c :: l) = true) : c = 115 := by
  unfold isStart at hs
  have e : (strOf (c :: l)).toList = startB.toList := by simpa using hs
  unfold strOf startB at e
  rw [ByteArray.toList_mk, ByteArray.toList_mk] at e
  have e' : UInt8.ofNat c.toNat :: l.map (fun n => UInt8.ofNat n.toNat) = [115, 116, 97, 114, 116] := by simpa using e
  injection e' with e1 _
  have := congrArg UInt8.toNat e1
  rw [UInt8.toNat_ofNat'] at this
  have h5 : (115 : UInt8).toNat = 115 := rfl
  omega
theorem tokF_begun {b : Nat → Int} {n k : Nat} {t : Tok} {to : Nat} (hb : ∀ j, 0 ≤ b j ∧ b j ≤ 255) (hk : k < n) (h : tokF b n k = .ok (t, to)) : t.pl = k ∧ Begun b n k t := by
  unfold tokF at h
  by_cases h1 : letB (b k) = true
  · rw [if_pos h1] at h
    unfold nameG at h
    by_cases h32 : 32 < nameE b n k - k
    · rw [if_pos h32] at h; cases h
    · rw [if_neg h32] at h
      obtain ⟨e1, e2⟩ := got_inj h
      have hgt := nameE_gt hk h1
      rw [cut_cons b k _ hgt] at e1
      subst e1
      unfold nameT
      by_cases hs : isStart (b k :: cut b (k + 1) (nameE b n k)) = true
      · rw [if_pos hs]
        have := start_head _ _ (hb k) hs
        exact ⟨rfl, by refine ⟨Nat.le_refl _, hk, by simp, ?_, ?_, ?_, ?_, ?_, ?_, ?_, ?_, ?_⟩ <;> simp [this]⟩
      · rw [if_neg hs]
        have := strOf_head (b k) (cut b (k + 1) (nameE b n k)) (hb k)
        exact ⟨rfl, by refine ⟨Nat.le_refl _, hk, by simp, fun _ => this, ?_, ?_, ?_, ?_, ?_, ?_, ?_, ?_⟩ <;> simp⟩
  · rw [if_neg h1] at h
    by_cases h2 : b k = 34
    · rw [if_pos h2] at h
      unfold textG at h
      split at h
      · cases h
      · obtain ⟨e1, e2⟩ := got_inj h
        subst e1
        exact ⟨rfl, by refine ⟨Nat.le_refl _, hk, by simp, ?_, ?_, ?_, ?_, ?_, ?_, ?_, ?_, ?_⟩ <;> simp [h2]⟩
    · rw [if_neg h2] at h
      by_cases h3 : b k = 39
      · rw [if_pos h3] at h
        unfold rangeG at h
        split at h
        · cases h
        · obtain ⟨e1, e2⟩ := got_inj h
          subst e1
          exact ⟨rfl, by refine ⟨Nat.le_refl _, hk, by simp, ?_, ?_, ?_, ?_, ?_, ?_, ?_, ?_, ?_⟩ <;> simp [h3]⟩
      · rw [if_neg h3] at h
        by_cases h4 : 0 < markF (b k)
        · rw [if_pos h4] at h
          obtain ⟨e1, e2⟩ := got_inj h
          subst e1
          refine ⟨rfl, ?_⟩
          unfold markF at h4 ⊢
          by_cases c1 : b k = 61
          · rw [if_pos c1]; refine ⟨Nat.le_refl _, hk, by simp, ?_, ?_, ?_, ?_, ?_, ?_, ?_, ?_, ?_⟩ <;> simp [c1]
          · rw [if_neg c1] at h4 ⊢
            by_cases c2 : b k = 124
            · rw [if_pos c2]; refine ⟨Nat.le_refl _, hk, by simp, ?_, ?_, ?_, ?_, ?_, ?_, ?_, ?_, ?_⟩ <;> simp [c2]
            · rw [if_neg c2] at h4 ⊢
              by_cases c3 : b k = 38
              · rw [if_pos c3]; refine ⟨Nat.le_refl _, hk, by simp, ?_, ?_, ?_, ?_, ?_, ?_, ?_, ?_, ?_⟩ <;> simp [c3]
              · rw [if_neg c3] at h4 ⊢
                by_cases c4 : b k = 126
                · rw [if_pos c4]; refine ⟨Nat.le_refl _, hk, by simp, ?_, ?_, ?_, ?_, ?_, ?_, ?_, ?_, ?_⟩ <;> simp [c4]
                · rw [if_neg c4] at h4 ⊢
                  by_cases c5 : b k = 59
                  · rw [if_pos c5]; refine ⟨Nat.le_refl _, hk, by simp, ?_, ?_, ?_, ?_, ?_, ?_, ?_, ?_, ?_⟩ <;> simp [c5]
                  · rw [if_neg c5] at h4; omega
        · rw [if_neg h4] at h; cases h
theorem Row.mono {b : Nat → Int} {n lo lo' : Nat} {l : List Tok} (h : Row b n lo l) (hl : lo' ≤ lo) : Row b n lo' l := by
  cases l with
  | nil => trivial
  | cons t l => exact ⟨⟨Nat.le_trans hl h.1.lo, h.1.hi, h.1.kd, h.1.h0, h.1.h1, h.1.h2, h.1.h3, h.1.h4, h.1.h5, h.1.h6, h.1.h7, h.1.h8⟩, h.2⟩
theorem lexS_row (b : Nat → Int) (n : Nat) (hb : ∀ j, 0 ≤ b j ∧ b j ≤ 255) : ∀ f k l, lexS b n f k = .ok l → k ≤ n → Row b n k l
  | 0, k, l, h, _ => by injection h with h; subst h; trivial
  | f + 1, k, l, h, hk => by
    have h' : (if n ≤ skp b n false k then Except.ok [] else match tokF b n (skp b n false k) with
      | .ok (t, to) => Res.cons t (lexS b n f to)
      | .error true => .error (skp b n false k, 201)
      | .error false => .error (skp b n false k, 200)) = .ok l := h
    by_cases h1 : n ≤ skp b n false k
    · rw [if_pos h1] at h'; injection h' with h'; subst h'; trivial
    · rw [if_neg h1] at h'
      have hge := skp_ge b n false k
      rcases hg : tokF b n (skp b n false k) with (_ | _) | ⟨t, to⟩
      · rw [hg] at h'; cases h'
      · rw [hg] at h'; cases h'
      · rw [hg] at h'
        have hto := tokF_to (by omega) hg
        have h2 : Res.cons t (lexS b n f to) = .ok l := h'
        cases hg2 : lexS b n f to with
        | error e => rw [hg2] at h2; cases h2
        | ok l2 =>
          rw [hg2] at h2
          obtain rfl : t :: l2 = l := by injection h2
          obtain ⟨e1, e2⟩ := tokF_begun hb (by omega) hg
          refine ⟨⟨by omega, e2.hi, e2.kd, e2.h0, e2.h1, e2.h2, e2.h3, e2.h4, e2.h5, e2.h6, e2.h7, e2.h8⟩, ?_⟩
          exact (lexS_row b n hb f to l2 hg2 hto.2).mono (by omega)
theorem lexS_at (b : Nat → Int) (n : Nat) : ∀ f k p x, lexS b n f k = .error (p, x) → k ≤ n → p ≤ n
  | 0, k, p, x, h, _ => by cases h
  | f + 1, k, p, x, h, hk => by
    have h' : (if n ≤ skp b n false k then Except.ok [] else match tokF b n (skp b n false k) with
      | .ok (t, to) => Res.cons t (lexS b n f to)
      | .error true => .error (skp b n false k, 201)
      | .error false => .error (skp b n false k, 200)) = .error (p, x) := h
    by_cases h1 : n ≤ skp b n false k
    · rw [if_pos h1] at h'; cases h'
    · rw [if_neg h1] at h'
      rcases hg : tokF b n (skp b n false k) with (_ | _) | ⟨t, to⟩
      · rw [hg] at h'; injection h' with h'; injection h' with h' _; omega
      · rw [hg] at h'; injection h' with h'; injection h' with h' _; omega
      · rw [hg] at h'
        have hto := tokF_to (by omega) hg
        have h2 : Res.cons t (lexS b n f to) = .error (p, x) := h'
        cases hg2 : lexS b n f to with
        | ok l2 => rw [hg2] at h2; cases h2
        | error e =>
          rw [hg2] at h2
          obtain ⟨p', x'⟩ := e
          injection h2 with h2; injection h2 with e1 e2
          exact lexS_at b n f to p x (by rw [hg2, e1, e2]) hto.2
theorem lexT_at {s : ByteArray} {p x : Nat} (h : lexT s = .error (p, x)) : p ≤ s.size ∧ p ≤ 65536 := by
  by_cases hs : 65536 < s.size
  · rw [lexT, lexB, if_pos hs] at h; injection h with h; injection h with h _; omega
  · rw [lexT, lexB, if_neg hs] at h
    have := lexS_at _ _ _ _ _ _ h (Nat.zero_le _)
    omega
theorem lexT_row {s : ByteArray} {l : List Tok} (h : lexT s = .ok l) : Row (PlainAid.bt s) s.size 0 l ∧ s.size ≤ 65536 := by
  by_cases hs : 65536 < s.size
  · rw [lexT, lexB, if_pos hs] at h; cases h
  · rw [lexT, lexB, if_neg hs] at h
    exact ⟨lexS_row _ _ (fun j => ⟨PlainAid.bt_nonneg s j, PlainAid.bt_le s j⟩) _ _ _ h (Nat.zero_le _), by omega⟩
/-- The places rise. -/
theorem Row.at {b : Nat → Int} {n : Nat} : ∀ {l : List Tok} {lo k : Nat} {t : Tok}, Row b n lo l → l[k]? = some t → Begun b n lo t ∧ (∀ u, l[k + 1]? = some u → t.pl < u.pl)
  | [], _, _, _, _, h => by simp at h
  | a :: l, lo, 0, t, hr, h => by
    obtain rfl : a = t := by simpa using h
    refine ⟨hr.1, fun u hu => ?_⟩
    cases l with
    | nil => simp at hu
    | cons c l =>
      obtain rfl : c = u := by simpa using hu
      have := hr.2.1.lo
      omega
  | a :: l, lo, k + 1, t, hr, h => by
    have h' : l[k]? = some t := by simpa using h
    obtain ⟨e, f⟩ := Row.at hr.2 h'
    have := hr.1.lo
    have := e.lo
    exact ⟨⟨by omega, e.hi, e.kd, e.h0, e.h1, e.h2, e.h3, e.h4, e.h5, e.h6, e.h7, e.h8⟩, fun u hu => f u (by simpa using hu)⟩
end Go.Proofs.Ytopnhbgialbicaa
