import Derived.Test.YtdoibpgkfdpbdaaLexTok
import Derived.KernelRfl
import Derived.Test.YtdoibpgkfdpbdaaLexPlac
import Derived.Test.YtdoibpgkfdpbdaaGramPl
import Derived.Test.YtdoibpgkfdpbdaaNotePl
namespace Go.Proofs.Ytdoibpgkfdpbdaa

theorem bt_left (s x : ByteArray) (j : Nat) (h : j < s.size) : PlainAid.bt (s ++ x) j = PlainAid.bt s j := by
  unfold PlainAid.bt
  rw [dif_pos h, dif_pos (by rw [ByteArray.size_append]; omega)]
  rw [ByteArray.getElem_append_left h]
end Go.Proofs.Ytdoibpgkfdpbdaa
namespace Go.Proofs.Ytdoibpgkfdpbdaa

def nmB (c : Int) : Bool := letB c || digB c
theorem strOf_whole (s x : ByteArray) : strOf (cut (PlainAid.bt (s ++ x)) 0 s.size) = s := by
  apply ByteArray.ext
  apply Array.ext
  · simp [strOf, cut]
  · intro i h1 h2
    have hi : i < s.size := h2
    simp only [strOf, cut, List.getElem_toArray, List.getElem_map, List.getElem_range]
    rw [Nat.zero_add, bt_left s x i hi]
    unfold PlainAid.bt
    rw [dif_pos hi]
    simp
    rfl
theorem nmB_let {c : Int} (h : letB c = true) : c ≠ 35 ∧ ¬ (c = 9 ∨ c = 10 ∨ c = 13 ∨ c = 32) := by
  unfold letB at h
  simp only [Bool.or_eq_true, Bool.and_eq_true, decide_eq_true_eq] at h
  omega
theorem skp_stay {b : Nat → Int} {n k : Nat} (h : k < n) (h1 : b k ≠ 35) (h2 : ¬ (b k = 9 ∨ b k = 10 ∨ b k = 13 ∨ b k = 32)) : skp b n false k = k := by
  rw [skp_false b n k h, if_neg h1, if_neg h2]
end Go.Proofs.Ytdoibpgkfdpbdaa
namespace Go.Proofs.Ytdoibpgkfdpbdaa
set_option linter.unusedVariables false

end Go.Proofs.Ytdoibpgkfdpbdaa
namespace Go.Proofs.Ytdoibpgkfdpbdaa
set_option linter.unusedVariables false

end Go.Proofs.Ytdoibpgkfdpbdaa
namespace Go.Proofs.Ytdoibpgkfdpbdaa
set_option linter.unusedVariables false

/-- A name, by its bytes. -/
def nameMayT (s : ByteArray) : Bool := decide (1 ≤ s.size) && (decide (s.size ≤ 32) && (!(s.toList == startB.toList) && (letB (PlainAid.bt s 0) && (List.range s.size).all fun j => nmB (PlainAid.bt s j))))
theorem nameE_all (b : Nat → Int) (n : Nat) : ∀ m k, n = k + m → (∀ j, k ≤ j → j < n → nmB (b j) = true) → nameE b n k = n
  | 0, k, e, _ => by rw [nameE_end b n k (by omega)]; omega
  | m + 1, k, e, h => by
    rw [nameE_in b n k (by omega) (h k (Nat.le_refl _) (by omega))]
    exact nameE_all b n m (k + 1) (by omega) (fun j h1 h2 => h j (by omega) h2)
theorem nameE_nm (b : Nat → Int) (n : Nat) : ∀ m k, n = k + m → nameE b n k = n → ∀ j, k ≤ j → j < n → nmB (b j) = true
  | 0, k, e, _, j, h1, h2 => by omega
  | m + 1, k, e, h, j, h1, h2 => by
    by_cases hk : (letB (b k) || digB (b k)) = true
    · by_cases ej : j = k
      · subst ej; exact hk
      · rw [nameE_in b n k (by omega) hk] at h
        exact nameE_nm b n m (k + 1) (by omega) h j (by omega) h2
    · rw [nameE_out b n k (by omega) (by simpa using hk)] at h
      omega
theorem strOf_all (s : ByteArray) : strOf (cut (PlainAid.bt s) 0 s.size) = s := by
  have := strOf_whole s ⟨#[]⟩
  rwa [show s ++ (⟨#[]⟩ : ByteArray) = s from ByteArray.append_empty] at this
theorem strOf_size (l : List Int) : (strOf l).size = l.length := by simp [strOf, ByteArray.size]
theorem nameMay_parts {s : ByteArray} (h : nameMayT s = true) : 1 ≤ s.size ∧ s.size ≤ 32 ∧ isStart (cut (PlainAid.bt s) 0 s.size) = false ∧ letB (PlainAid.bt s 0) = true ∧ ∀ j, j < s.size → nmB (PlainAid.bt s j) = true := by
  simp only [nameMayT, Bool.and_eq_true, decide_eq_true_eq, Bool.not_eq_true', List.all_eq_true, List.mem_range] at h
  obtain ⟨h1, h2, h3, h4, h5⟩ := h
  exact ⟨h1, h2, by unfold isStart; rw [strOf_all]; exact h3, h4, h5⟩
theorem lexT_name {s : ByteArray} (h : nameMayT s = true) : lexT s = .ok [⟨0, 0, s, 0, 0⟩] := by
  obtain ⟨h1, h2, h3, h4, h5⟩ := nameMay_parts h
  have hs := strOf_all s
  rw [lexT, lexB, if_neg (by omega)]
  generalize PlainAid.bt s = b at *
  obtain ⟨n1, n2⟩ := nmB_let h4
  have hE : nameE b s.size 0 = s.size := nameE_all b s.size s.size 0 (by omega) (fun j _ hj => h5 j hj)
  rw [lexK_eq b _ 0 (Nat.zero_le _), skp_stay (by omega) n1 n2, lexA, if_neg (by omega)]
  have hT : tokF b s.size 0 = .ok (⟨0, 0, s, 0, 0⟩, s.size) := by
    unfold tokF
    rw [if_pos h4, nameG, hE, if_neg (by omega)]
    unfold nameT
    rw [if_neg (by rw [h3]; simp), hs]
  rw [hT]
  show Res.cons _ (lexK b s.size s.size) = _
  rw [lexK_eq b _ _ (Nat.le_refl _), skp_end _ _ _ _ (Nat.le_refl _), lexA, if_pos (Nat.le_refl _)]
  rfl
theorem Res.cons_one {t t' : Tok} {r : Res} (h : Res.cons t r = .ok [t']) : t = t' := by
  cases r with
  | error e => cases h
  | ok l => injection h with h; injection h
theorem nameMay_of {s : ByteArray} {t : Tok} (h : lexT s = .ok [t]) (hz : s.size ≤ 32) (hk : t.kind = 0) (ht : t.text = s) : nameMayT s = true := by
  have hs := strOf_all s
  rw [lexT, lexB, if_neg (by omega), lexK_eq _ _ 0 (Nat.zero_le _)] at h
  have ha := skp_le (PlainAid.bt s) s.size false 0 (Nat.zero_le _)
  generalize hq : skp (PlainAid.bt s) s.size false 0 = a at h ha
  unfold lexA at h
  by_cases hn : s.size ≤ a
  · rw [if_pos hn] at h; injection h with h; cases h
  · rw [if_neg hn] at h
    have key : ∃ to, tokF (PlainAid.bt s) s.size a = .ok (t, to) := by
      rcases hg : tokF (PlainAid.bt s) s.size a with (_ | _) | ⟨t', to⟩
      · rw [hg] at h; cases h
      · rw [hg] at h; cases h
      · rw [hg] at h
        exact ⟨to, by rw [Res.cons_one (t := t') h]⟩
    obtain ⟨to, hT⟩ := key
    unfold tokF at hT
    by_cases hl : letB (PlainAid.bt s a) = true
    · rw [if_pos hl] at hT
      unfold nameG at hT
      by_cases h32 : 32 < nameE (PlainAid.bt s) s.size a - a
      · rw [if_pos h32] at hT; cases hT
      · rw [if_neg h32] at hT
        obtain ⟨e1, e2⟩ := got_inj hT
        unfold nameT at e1
        cases hS : isStart (cut (PlainAid.bt s) a (nameE (PlainAid.bt s) s.size a)) with
        | true =>
          rw [hS, if_pos rfl] at e1
          rw [← e1] at hk; cases hk
        | false =>
          rw [hS, if_neg (by decide)] at e1
          have hx : strOf (cut (PlainAid.bt s) a (nameE (PlainAid.bt s) s.size a)) = s := (congrArg Tok.text e1).trans ht
          have hy := congrArg ByteArray.size hx
          rw [strOf_size, cut_len] at hy
          have hle := nameE_le (PlainAid.bt s) s.size a (by omega)
          obtain rfl : a = 0 := by omega
          have hE : nameE (PlainAid.bt s) s.size 0 = s.size := by omega
          rw [hE] at hS
          unfold isStart at hS
          rw [strOf_all] at hS
          simp only [nameMayT, Bool.and_eq_true, decide_eq_true_eq, Bool.not_eq_true', List.all_eq_true, List.mem_range]
          exact ⟨by omega, hz, hS, hl, fun j hj => nameE_nm _ _ s.size 0 (by omega) hE j (Nat.zero_le _) hj⟩
    · rw [if_neg hl] at hT
      exfalso
      by_cases h34 : PlainAid.bt s a = 34
      · rw [if_pos h34] at hT
        unfold textG at hT
        split at hT
        · cases hT
        · obtain ⟨e1, e2⟩ := got_inj hT
          rw [← e1] at hk; cases hk
      · rw [if_neg h34] at hT
        by_cases h39 : PlainAid.bt s a = 39
        · rw [if_pos h39] at hT
          unfold rangeG at hT
          split at hT
          · cases hT
          · obtain ⟨e1, e2⟩ := got_inj hT
            rw [← e1] at hk; cases hk
        · rw [if_neg h39] at hT
          by_cases hm : 0 < markF (PlainAid.bt s a)
          · rw [if_pos hm] at hT
            obtain ⟨e1, e2⟩ := got_inj hT
            rw [← e1] at hk
            have hk' : (markF (PlainAid.bt s a)).toNat = 0 := hk
            omega
          · rw [if_neg hm] at hT; cases hT
theorem isName_eq (s : ByteArray) : isNameT s = nameMayT s := by
  rw [Bool.eq_iff_iff]
  constructor
  · intro h
    simp only [isNameT, Bool.and_eq_true, decide_eq_true_eq] at h
    obtain ⟨h1, h2⟩ := h
    cases hl : lexT s with
    | error e => rw [hl] at h2; cases h2
    | ok l =>
      rw [hl] at h2
      match l, h2, hl with
      | [], h2, _ => cases h2
      | _ :: _ :: _, h2, _ => cases h2
      | [t], h2, hl =>
        have h3 : (decide (t.kind = 0) && decide (t.text = s)) = true := h2
        simp only [Bool.and_eq_true, decide_eq_true_eq] at h3
        exact nameMay_of hl h1 h3.1 h3.2
  · intro h
    have h2 := (nameMay_parts h).2.1
    rw [isNameT, lexT_name h]
    simp [h2, nameL]

end Go.Proofs.Ytdoibpgkfdpbdaa
namespace Go.Proofs.Ytdoibpgkfdpbdaa
set_option linter.unusedVariables false

section
variable {l m : List UInt8} {ts us : List It}
end
end Go.Proofs.Ytdoibpgkfdpbdaa
namespace Go.Proofs.Ytdoibpgkfdpbdaa
set_option linter.unusedVariables false

end Go.Proofs.Ytdoibpgkfdpbdaa
namespace Go.Proofs.Ytdoibpgkfdpbdaa
set_option linter.unusedVariables false

theorem place_app (a r : List ByteArray) (s : ByteArray) (h : known a s = false) : place (a ++ s :: r) s = some a.length := by
  induction a with
  | nil => simp [place]
  | cons x a ih =>
    unfold known place at h
    by_cases e : x = s
    · rw [if_pos e] at h; cases h
    · rw [if_neg e] at h
      have h' : known a s = false := by
        unfold known
        cases hp : place a s with
        | none => rfl
        | some k => rw [hp] at h; cases h
      show (if x = s then some 0 else (place (a ++ s :: r) s).map (· + 1)) = _
      rw [if_neg e, ih h']
      simp
theorem again_fresh : ∀ (l seen : List ByteArray) (i : Nat), againT seen l i = i + l.length → ∀ (k : Nat) (s : ByteArray), l[k]? = some s → known (seen ++ l.take k) s = false
  | [], seen, i, _, k, s, h => by simp at h
  | x :: l, seen, i, h, k, s, hk => by
    have h' : (if known seen x = true then i else againT (seen ++ [x]) l (i + 1)) = i + (l.length + 1) := h
    by_cases hx : known seen x = true
    · rw [if_pos hx] at h'; omega
    · rw [if_neg hx] at h'
      match k, hk with
      | 0, hk =>
        obtain rfl : x = s := by simpa using hk
        simpa using hx
      | k + 1, hk =>
        have := again_fresh l (seen ++ [x]) (i + 1) (by omega) k s (by simpa using hk)
        simpa using this
theorem place_at {l : List ByteArray} (h : again l = l.length) {k : Nat} (hk : k < l.length) (d : ByteArray) : place l (l.getD k d) = some k := by
  have e : l[k]? = some (l.getD k d) := by rw [List.getD, List.getElem?_eq_getElem hk]; rfl
  have h1 := again_fresh l [] 0 (by rw [Nat.zero_add]; exact h) k _ e
  rw [List.nil_append] at h1
  have h2 : l = l.take k ++ (l.getD k d) :: l.drop (k + 1) := by
    conv => lhs; rw [← List.take_append_drop k l]
    congr 1
    rw [List.drop_eq_getElem_cons hk, List.getD, List.getElem?_eq_getElem hk]; rfl
  generalize l.getD k d = s at *
  conv => lhs; rw [h2]
  rw [place_app _ _ _ h1, List.length_take]
  congr 1
  omega
end Go.Proofs.Ytdoibpgkfdpbdaa
namespace Go.Proofs.Ytdoibpgkfdpbdaa
set_option linter.unusedVariables false

end Go.Proofs.Ytdoibpgkfdpbdaa

