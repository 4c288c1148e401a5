/- A text that is cut, told of texts; an error's place. No program in sight. -/
import Derived.Test.YtbpkpfnjgljilaaShowBackT
import Derived.Test.YtbpkpfnjgljilaaLexPfx
namespace Go.Proofs.Ytbpkpfnjgljilaa

theorem bt_take (s : ByteArray) (k j : Nat) (hj : j < k) (hk : k ≤ s.size) : PlainAid.bt (s.extract 0 k) j = PlainAid.bt s j := by
  unfold PlainAid.bt
  rw [dif_pos (by rw [ByteArray.size_extract]; omega), dif_pos (by omega)]
  congr 2
  rw [ByteArray.getElem_extract]
  congr 1; omega
theorem size_take (s : ByteArray) (k : Nat) (hk : k ≤ s.size) : (s.extract 0 k).size = k := by rw [ByteArray.size_extract]; omega
theorem parseT_ok {s : ByteArray} {r : Rw} (h : parseT s = .ok r) : s.size ≤ 65536 ∧ ∃ l p, lexT s = .ok l ∧ feed pm0 l = .ok p ∧ p.st = 0 ∧ r = ⟨p.starts, p.defs⟩ := by
  unfold parseT at h
  by_cases hs : 65536 < s.size
  · rw [if_pos hs] at h; cases h
  · rw [if_neg hs] at h
    cases hl : lexT s with
    | error e => rw [hl] at h; cases h
    | ok l =>
      rw [hl] at h
      have h' : shutP s.size (feed pm0 l) = .ok r := h
      cases hf : feed pm0 l with
      | error e => rw [hf] at h'; cases h'
      | ok p =>
        rw [hf] at h'
        have h2 : (if p.st = 0 then .ok ⟨p.starts, p.defs⟩ else .error (s.size, 300) : Pres) = .ok r := h'
        by_cases h0 : p.st = 0
        · rw [if_pos h0] at h2; injection h2 with h2
          exact ⟨by omega, l, p, rfl, hf, h0, h2.symm⟩
        · rw [if_neg h0] at h2; cases h2
theorem parseT_mk {s : ByteArray} {l : List Tok} {p : Pm} (hs : s.size ≤ 65536) (hl : lexT s = .ok l) (hf : feed pm0 l = .ok p) (h0 : p.st = 0) : parseT s = .ok ⟨p.starts, p.defs⟩ := by
  unfold parseT
  rw [if_neg (by omega), hl]
  show shutP s.size (feed pm0 l) = _
  rw [hf]
  exact if_pos h0
theorem parse_cut (s : ByteArray) (k : Nat) (hk : k ≤ s.size) {r w : Rw} (hw : parseT s = .ok w) (hr : parseT (s.extract 0 k) = .ok r) : (∃ x, w.starts = r.starts ++ x) ∧ (∃ x, w.defs = r.defs ++ x) := by
  obtain ⟨hz, l, p, hl, hf, h0, rfl⟩ := parseT_ok hw
  obtain ⟨hz', l', p', hl', hf', h0', rfl⟩ := parseT_ok hr
  have hsz := size_take s k hk
  have E : lexT s = lexK (PlainAid.bt s) s.size 0 := by rw [lexT, lexB, if_neg (by omega)]
  have E' : lexT (s.extract 0 k) = lexK (PlainAid.bt (s.extract 0 k)) k 0 := by rw [lexT, lexB, hsz, if_neg (by omega)]
  rw [E] at hl
  rw [E'] at hl'
  obtain ⟨q, hq, e⟩ := lexK_cut (b := PlainAid.bt s) (n := s.size) ⟨fun j hj => bt_take s k j hj hk, hk⟩ (fun j => ⟨PlainAid.bt_nonneg _ j, PlainAid.bt_le _ j⟩) k 0 l' (by omega) (by omega) hl' (feed_last l' pm0 p' hf' h0')
  rw [hl] at e
  cases hx : lexK (PlainAid.bt s) s.size q with
  | error x => rw [hx] at e; cases e
  | ok l2 =>
    rw [hx] at e
    obtain rfl : l = l' ++ l2 := by injection e
    rw [feed_app l' l2 pm0 p' hf'] at hf
    obtain ⟨h1, h2⟩ := feed_grew l2 p' p hf
    exact ⟨h1, h2⟩
theorem feed_err (l : List Tok) : ∀ (p : Pm) (k : Nat), feed p l = .error k → ∃ t, t ∈ l ∧ k = t.pl := by
  induction l with
  | nil => intro p k h; cases h
  | cons a l ih =>
    intro p k h
    have h' : (match take p a with
      | none => Except.error a.pl
      | some r => feed r l) = .error k := h
    cases hk : take p a with
    | none => rw [hk] at h'; injection h' with h'; exact ⟨a, by simp, h'.symm⟩
    | some r =>
      rw [hk] at h'
      obtain ⟨t, ht, e⟩ := ih r k h'
      exact ⟨t, by simp [ht], e⟩
theorem row_mem {b : Nat → Int} {n : Nat} : ∀ {l : List Tok} {lo : Nat} {t : Tok}, Row b n lo l → t ∈ l → t.pl < n
  | [], _, _, _, h => by simp at h
  | a :: l, lo, t, hr, h => by
    rcases List.mem_cons.1 h with rfl | h
    · exact hr.1.hi
    · exact row_mem hr.2 h
theorem parse_bad {t : ByteArray} (ht : t.size ≤ 65536) {p x : Nat} (h : parseT t = .error (p, x)) : x = 300 ∧ p ≤ t.size := by
  unfold parseT at h
  rw [if_neg (by omega)] at h
  cases hl : lexT t with
  | error e =>
    rw [hl] at h
    obtain ⟨a, b⟩ := e
    injection h with h; injection h with h1 h2
    have := (lexT_at hl).1
    exact ⟨h2.symm, by omega⟩
  | ok l =>
    rw [hl] at h
    have h' : shutP t.size (feed pm0 l) = .error (p, x) := h
    cases hf : feed pm0 l with
    | error e =>
      rw [hf] at h'
      injection h' with h'; injection h' with h1 h2
      obtain ⟨u, hu, e⟩ := feed_err l pm0 e hf
      have := row_mem (lexT_row hl).1 hu
      exact ⟨h2.symm, by omega⟩
    | ok q =>
      rw [hf] at h'
      have h2 : (if q.st = 0 then .ok ⟨q.starts, q.defs⟩ else .error (t.size, 300) : Pres) = .error (p, x) := h'
      by_cases h0 : q.st = 0
      · rw [if_pos h0] at h2; cases h2
      · rw [if_neg h0] at h2; injection h2 with h2; injection h2 with e1 e2; exact ⟨e2.symm, by omega⟩
theorem parse_long {s : ByteArray} {p x : Nat} (h : parseT s = .error (p, x)) : x = 300 ∨ x = 301 := by
  by_cases hs : 65536 < s.size
  · unfold parseT at h; rw [if_pos hs] at h; injection h with h; injection h with _ h; exact Or.inr h.symm
  · exact Or.inl (parse_bad (by omega) h).1
end Go.Proofs.Ytbpkpfnjgljilaa
