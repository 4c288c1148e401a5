import Derived.Test.YtkkmjgohjaedkaaLexQuo
import Derived.Test.YtkkmjgohjaedkaaShowPl
import Derived.Test.YtkkmjgohjaedkaaNoteCut
import Derived.Test.YtkkmjgohjaedkaaShowGood
/- Names by their bytes; pieces of a text and what they are told as, whatever stands behind. No program in sight. -/
namespace Go.Proofs.Ytkkmjgohjaedkaa
set_option linter.unusedVariables false

/-- A name, by its bytes. -/
def nameMayT (s : ByteArray) : Bool := decide (1 ≤ s.size) && (decide (s.size ≤ 32) && (!(s.toList == startB.toList) && (letB (PlainAid.bt s 0) && (List.range s.size).all fun j => nmB (PlainAid.bt s j))))
theorem nameE_all (b : Nat → Int) (n : Nat) : ∀ m k, n = k + m → (∀ j, k ≤ j → j < n → nmB (b j) = true) → nameE b n k = n
  | 0, k, e, _ => by rw [nameE_end b n k (by omega)]; omega
  | m + 1, k, e, h => by
    rw [nameE_in b n k (by omega) (h k (Nat.le_refl _) (by omega))]
    exact nameE_all b n m (k + 1) (by omega) (fun j h1 h2 => h j (by omega) h2)
theorem nameE_nm (b : Nat → Int) (n : Nat) : ∀ m k, n = k + m → nameE b n k = n → ∀ j, k ≤ j → j < n → nmB (b j) = true
  | 0, k, e, _, j, h1, h2 => by omega
  | m + 1, k, e, h, j, h1, h2 => by
    by_cases hk : (letB (b k) || digB (b k)) = true
    · by_cases ej : j = k
      · subst ej; exact hk
      · rw [nameE_in b n k (by omega) hk] at h
        exact nameE_nm b n m (k + 1) (by omega) h j (by omega) h2
    · rw [nameE_out b n k (by omega) (by simpa using hk)] at h
      omega
theorem strOf_all (s : ByteArray) : strOf (cut (PlainAid.bt s) 0 s.size) = s := by
  have := strOf_whole s ⟨#[]⟩
  rwa [show s ++ (⟨#[]⟩ : ByteArray) = s from ByteArray.append_empty] at this
theorem strOf_size (l : List Int) : (strOf l).size = l.length := by simp [strOf, ByteArray.size]
theorem nameMay_parts {s : ByteArray} (h : nameMayT s = true) : 1 ≤ s.size ∧ s.size ≤ 32 ∧ isStart (cut (PlainAid.bt s) 0 s.size) = false ∧ letB (PlainAid.bt s 0) = true ∧ ∀ j, j < s.size → nmB (PlainAid.bt s j) = true := by
  simp only [nameMayT, Bool.and_eq_true, decide_eq_true_eq, Bool.not_eq_true', List.all_eq_true, List.mem_range] at h
  obtain ⟨h1, h2, h3, h4, h5⟩ := h
  exact ⟨h1, h2, by unfold isStart; rw [strOf_all]; exact h3, h4, h5⟩
theorem lexT_name {s : ByteArray} (h : nameMayT s = true) : lexT s = .ok [⟨0, 0, s, 0, 0⟩] := by
  obtain ⟨h1, h2, h3, h4, h5⟩ := nameMay_parts h
  have hs := strOf_all s
  rw [lexT, lexB, if_neg (by omega)]
  generalize PlainAid.bt s = b at *
  obtain ⟨n1, n2⟩ := nmB_let h4
  have hE : nameE b s.size 0 = s.size := nameE_all b s.size s.size 0 (by omega) (fun j _ hj => h5 j hj)
  rw [lexK_eq b _ 0 (Nat.zero_le _), skp_stay (by omega) n1 n2, lexA, if_neg (by omega)]
  have hT : tokF b s.size 0 = .ok (⟨0, 0, s, 0, 0⟩, s.size) := by
    unfold tokF
    rw [if_pos h4, nameG, hE, if_neg (by omega)]
    unfold nameT
    rw [if_neg (by rw [h3]; simp), hs]
  rw [hT]
  show Res.cons _ (lexK b s.size s.size) = _
  rw [lexK_eq b _ _ (Nat.le_refl _), skp_end _ _ _ _ (Nat.le_refl _), lexA, if_pos (Nat.le_refl _)]
  rfl
theorem Res.cons_one {t t' : Tok} {r : Res} (h : Res.cons t r = .ok [t']) : t = t' := by
  cases r with
  | error e => cases h
  | ok l => injection h with h; injection h
theorem nameMay_of {s : ByteArray} {t : Tok} (h : lexT s = .ok [t]) (hz : s.size ≤ 32) (hk : t.kind = 0) (ht : t.text = s) : nameMayT s = true := by
  have hs := strOf_all s
  rw [lexT, lexB, if_neg (by omega), lexK_eq _ _ 0 (Nat.zero_le _)] at h
  have ha := skp_le (PlainAid.bt s) s.size false 0 (Nat.zero_le _)
  generalize hq : skp (PlainAid.bt s) s.size false 0 = a at h ha
  unfold lexA at h
  by_cases hn : s.size ≤ a
  · rw [if_pos hn] at h; injection h with h; cases h
  · rw [if_neg hn] at h
    have key : ∃ to, tokF (PlainAid.bt s) s.size a = .ok (t, to) := by
      rcases hg : tokF (PlainAid.bt s) s.size a with (_ | _) | ⟨t', to⟩
      · rw [hg] at h; cases h
      · rw [hg] at h; cases h
      · rw [hg] at h
        exact ⟨to, by rw [Res.cons_one (t := t') h]⟩
    obtain ⟨to, hT⟩ := key
    unfold tokF at hT
    by_cases hl : letB (PlainAid.bt s a) = true
    · rw [if_pos hl] at hT
      unfold nameG at hT
      by_cases h32 : 32 < nameE (PlainAid.bt s) s.size a - a
      · rw [if_pos h32] at hT; cases hT
      · rw [if_neg h32] at hT
        obtain ⟨e1, e2⟩ := got_inj hT
        unfold nameT at e1
        cases hS : isStart (cut (PlainAid.bt s) a (nameE (PlainAid.bt s) s.size a)) with
        | true =>
          rw [hS, if_pos rfl] at e1
          rw [← e1] at hk; cases hk
        | false =>
          rw [hS, if_neg (by decide)] at e1
          have hx : strOf (cut (PlainAid.bt s) a (nameE (PlainAid.bt s) s.size a)) = s := (congrArg Tok.text e1).trans ht
          have hy := congrArg ByteArray.size hx
          rw [strOf_size, cut_len] at hy
          have hle := nameE_le (PlainAid.bt s) s.size a (by omega)
          obtain rfl : a = 0 := by omega
          have hE : nameE (PlainAid.bt s) s.size 0 = s.size := by omega
          rw [hE] at hS
          unfold isStart at hS
          rw [strOf_all] at hS
          simp only [nameMayT, Bool.and_eq_true, decide_eq_true_eq, Bool.not_eq_true', List.all_eq_true, List.mem_range]
          exact ⟨by omega, hz, hS, hl, fun j hj => nameE_nm _ _ s.size 0 (by omega) hE j (Nat.zero_le _) hj⟩
    · rw [if_neg hl] at hT
      exfalso
      by_cases h34 : PlainAid.bt s a = 34
      · rw [if_pos h34] at hT
        unfold textG at hT
        split at hT
        · cases hT
        · obtain ⟨e1, e2⟩ := got_inj hT
          rw [← e1] at hk; cases hk
      · rw [if_neg h34] at hT
        by_cases h39 : PlainAid.bt s a = 39
        · rw [if_pos h39] at hT
          unfold rangeG at hT
          split at hT
          · cases hT
          · obtain ⟨e1, e2⟩ := got_inj hT
            rw [← e1] at hk; cases hk
        · rw [if_neg h39] at hT
          by_cases hm : 0 < markF (PlainAid.bt s a)
          · rw [if_pos hm] at hT
            obtain ⟨e1, e2⟩ := got_inj hT
            rw [← e1] at hk
            have hk' : (markF (PlainAid.bt s a)).toNat = 0 := hk
            omega
          · rw [if_neg hm] at hT; cases hT
theorem isName_eq (s : ByteArray) : isNameT s = nameMayT s := by
  rw [Bool.eq_iff_iff]
  constructor
  · intro h
    simp only [isNameT, Bool.and_eq_true, decide_eq_true_eq] at h
    obtain ⟨h1, h2⟩ := h
    cases hl : lexT s with
    | error e => rw [hl] at h2; cases h2
    | ok l =>
      rw [hl] at h2
      match l, h2, hl with
      | [], h2, _ => cases h2
      | _ :: _ :: _, h2, _ => cases h2
      | [t], h2, hl =>
        have h3 : (decide (t.kind = 0) && decide (t.text = s)) = true := h2
        simp only [Bool.and_eq_true, decide_eq_true_eq] at h3
        exact nameMay_of hl h1 h3.1 h3.2
  · intro h
    have h2 := (nameMay_parts h).2.1
    rw [isNameT, lexT_name h]
    simp [h2, nameL]

/-- x begins with a byte that no name has. -/
def Delim (x : ByteArray) : Prop := 0 < x.size ∧ nmB (PlainAid.bt x 0) = false
/-- s has the tokens l, and what stands behind it has its own, if it begins with a byte that no name has. -/
def ToldD (s : ByteArray) (l : List Tok) : Prop := ∀ x : ByteArray, s.size + x.size ≤ 65536 → Delim x → lexT (s ++ x) = Res.pre l (Res.sh s.size (lexT x))
theorem Told.d {s : ByteArray} {l : List Tok} (h : Told s l) : ToldD s l := fun x hx _ => h x hx
theorem Delim.app {p x : ByteArray} (h : Delim p) : Delim (p ++ x) := ⟨by rw [ByteArray.size_append]; have := h.1; omega, by rw [bt_left _ _ _ h.1]; exact h.2⟩
theorem ToldD.tell {s p : ByteArray} {l m : List Tok} (hs : ToldD s l) (hp : Told p m) (hd : Delim p) : Told (s ++ p) (l ++ m.map (Tok.sh s.size)) := fun x hx => by
  rw [ByteArray.size_append] at hx
  rw [ByteArray.append_assoc, hs (p ++ x) (by rw [ByteArray.size_append]; omega) hd.app, hp x (by omega), Res.sh_pre, Res.pre_pre, Res.sh_sh, ByteArray.size_append, Nat.add_comm p.size]
theorem ToldD.app {s p : ByteArray} {l m : List Tok} (hs : ToldD s l) (hp : ToldD p m) (hd : Delim p) : ToldD (s ++ p) (l ++ m.map (Tok.sh s.size)) := fun x hx hdx => by
  rw [ByteArray.size_append] at hx
  rw [ByteArray.append_assoc, hs (p ++ x) (by rw [ByteArray.size_append]; omega) hd.app, hp x (by omega) hdx, Res.sh_pre, Res.pre_pre, Res.sh_sh, ByteArray.size_append, Nat.add_comm p.size]
theorem Told.appD {s p : ByteArray} {l m : List Tok} (hs : Told s l) (hp : ToldD p m) : ToldD (s ++ p) (l ++ m.map (Tok.sh s.size)) := fun x hx hdx => by
  rw [ByteArray.size_append] at hx
  rw [ByteArray.append_assoc, hs (p ++ x) (by rw [ByteArray.size_append]; omega), hp x (by omega) hdx, Res.sh_pre, Res.pre_pre, Res.sh_sh, ByteArray.size_append, Nat.add_comm p.size]
theorem toldD_name {s : ByteArray} (h : nameMayT s = true) : ToldD s [⟨0, 0, s, 0, 0⟩] := fun x hx hd => by
  obtain ⟨h1, h2, h3, h4, h5⟩ := nameMay_parts h
  have hz : (s ++ x).size = x.size + s.size := by rw [ByteArray.size_append]; omega
  have E1 : lexT (s ++ x) = lexK (PlainAid.bt (s ++ x)) (x.size + s.size) 0 := by rw [lexT, lexB, if_neg (by omega), hz]
  have E2 : lexT x = lexK (PlainAid.bt x) x.size 0 := by rw [lexT, lexB, if_neg (by omega)]
  have hb : ∀ j, j < s.size → PlainAid.bt (s ++ x) j = PlainAid.bt s j := fun j hj => bt_left _ _ _ hj
  have hs := lexK_sh (b := PlainAid.bt x) (b' := PlainAid.bt (s ++ x)) (d := s.size) (fun j => bt_right s x j) x.size 0
  rw [Nat.zero_add] at hs
  have he : nmB (PlainAid.bt (s ++ x) s.size) = false := by
    have := bt_right s x 0
    rw [Nat.zero_add] at this
    rw [this]; exact hd.2
  have hw : strOf (cut (PlainAid.bt (s ++ x)) 0 s.size) = s := strOf_whole s x
  have hl0 : letB (PlainAid.bt (s ++ x) 0) = true := by rw [hb 0 (by omega)]; exact h4
  have hcut : cut (PlainAid.bt (s ++ x)) 0 s.size = cut (PlainAid.bt s) 0 s.size := by
    unfold cut
    apply List.map_congr_left
    intro j hj
    rw [List.mem_range] at hj
    exact hb _ (by omega)
  have h3' : isStart (cut (PlainAid.bt (s ++ x)) 0 s.size) = false := by rw [hcut]; exact h3
  have hall : ∀ j, j < s.size → nmB (PlainAid.bt (s ++ x) j) = true := fun j hj => by rw [hb j hj]; exact h5 j hj
  have hxp := hd.1
  rw [E1, E2]
  generalize PlainAid.bt (s ++ x) = b at *
  obtain ⟨n1, n2⟩ := nmB_let hl0
  have hE : nameE b (x.size + s.size) 0 = s.size := nameE_run b _ s.size (by omega) he s.size 0 (by omega) (fun j _ hj => hall j hj)
  rw [lexK_eq b _ 0 (Nat.zero_le _), skp_stay (by omega) n1 n2, lexA, if_neg (by omega)]
  have hT : tokF b (x.size + s.size) 0 = .ok (⟨0, 0, s, 0, 0⟩, s.size) := by
    unfold tokF
    rw [if_pos hl0, nameG, hE, if_neg (by omega)]
    unfold nameT
    rw [if_neg (by rw [h3']; simp), hw]
  rw [hT]
  show Res.cons _ (lexK b _ s.size) = _
  rw [hs]
  cases lexK (PlainAid.bt x) x.size 0 <;> rfl
end Go.Proofs.Ytkkmjgohjaedkaa
/- A grammar's text piece by piece: what each piece is told as. No program in sight. -/
namespace Go.Proofs.Ytkkmjgohjaedkaa
set_option linter.unusedVariables false

def ba (l : List UInt8) : ByteArray := ⟨l.toArray⟩
theorem ba_size (l : List UInt8) : (ba l).size = l.length := by simp [ba, ByteArray.size]
theorem ba_app (l m : List UInt8) : ba (l ++ m) = ba l ++ ba m := by
  apply ByteArray.ext
  simp [ba, ByteArray.data_append]
theorem ba_of (s : ByteArray) : ba s.data.toList = s := by
  cases s with | mk a => simp [ba]
theorem ba_bt (l : List UInt8) (k : Nat) : PlainAid.bt (ba l) k = ((l[k]?).map fun c => (c.toNat : Int)).getD 0 := by
  unfold PlainAid.bt
  by_cases h : k < l.length
  · rw [dif_pos (by rw [ba_size]; exact h), List.getElem?_eq_getElem h]; rfl
  · rw [dif_neg (by rw [ba_size]; exact h), List.getElem?_eq_none (by omega)]; rfl
theorem ba_bt_left (l m : List UInt8) (k : Nat) (h : k < l.length) : PlainAid.bt (ba (l ++ m)) k = PlainAid.bt (ba l) k := by
  rw [ba_bt, ba_bt, List.getElem?_append_left h]
theorem ba_bt_right (l m : List UInt8) (k : Nat) : PlainAid.bt (ba (l ++ m)) (l.length + k) = PlainAid.bt (ba m) k := by
  rw [ba_bt, ba_bt, List.getElem?_append_right (by omega), show l.length + k - l.length = k by omega]
/-- A token without its place. -/
def Tok.st (t : Tok) : It := ⟨(t.kind : Int), t.text, t.lo, t.hi⟩
theorem st_sh (d : Nat) (l : List Tok) : (l.map (Tok.sh d)).map Tok.st = l.map Tok.st := by
  rw [List.map_map]; rfl
def Tells (l : List UInt8) (ts : List It) : Prop := ∃ toks, Told (ba l) toks ∧ toks.map Tok.st = ts
def TellsD (l : List UInt8) (ts : List It) : Prop := ∃ toks, ToldD (ba l) toks ∧ toks.map Tok.st = ts
/-- l begins with a byte that no name has. -/
def Cutting (l : List UInt8) : Prop := ∃ c m, l = c :: m ∧ nmB (c.toNat : Int) = false
theorem Cutting.delim {l : List UInt8} (h : Cutting l) : Delim (ba l) := by
  obtain ⟨c, m, rfl, hc⟩ := h
  exact ⟨by rw [ba_size]; simp, by rw [ba_bt]; exact hc⟩
theorem Cutting.app {l m : List UInt8} (h : Cutting l) : Cutting (l ++ m) := by
  obtain ⟨c, r, rfl, hc⟩ := h
  exact ⟨c, r ++ m, rfl, hc⟩
section
variable {l m : List UInt8} {ts us : List It}
theorem Tells.d (h : Tells l ts) : TellsD l ts := by
  obtain ⟨toks, h1, h2⟩ := h
  exact ⟨toks, h1.d, h2⟩
theorem Tells.app (h : Tells l ts) (k : Tells m us) : Tells (l ++ m) (ts ++ us) := by
  obtain ⟨a, h1, h2⟩ := h
  obtain ⟨b, k1, k2⟩ := k
  refine ⟨_, by rw [ba_app]; exact h1.app k1, ?_⟩
  rw [List.map_append, st_sh, h2, k2]
theorem Tells.appD (h : Tells l ts) (k : TellsD m us) : TellsD (l ++ m) (ts ++ us) := by
  obtain ⟨a, h1, h2⟩ := h
  obtain ⟨b, k1, k2⟩ := k
  refine ⟨_, by rw [ba_app]; exact h1.appD k1, ?_⟩
  rw [List.map_append, st_sh, h2, k2]
theorem TellsD.app (h : TellsD l ts) (k : TellsD m us) (hm : Cutting m) : TellsD (l ++ m) (ts ++ us) := by
  obtain ⟨a, h1, h2⟩ := h
  obtain ⟨b, k1, k2⟩ := k
  refine ⟨_, by rw [ba_app]; exact h1.app k1 hm.delim, ?_⟩
  rw [List.map_append, st_sh, h2, k2]
theorem TellsD.tells (h : TellsD l ts) (k : Tells m us) (hm : Cutting m) : Tells (l ++ m) (ts ++ us) := by
  obtain ⟨a, h1, h2⟩ := h
  obtain ⟨b, k1, k2⟩ := k
  refine ⟨_, by rw [ba_app]; exact h1.tell k1 hm.delim, ?_⟩
  rw [List.map_append, st_sh, h2, k2]
end
theorem tells_nil : Tells [] [] := ⟨[], Told.nil, rfl⟩
theorem tells_blank : Tells [32] [] := by
  refine ⟨[], ?_, rfl⟩
  have := Told.join (s := ⟨#[]⟩) 32 (Or.inr (Or.inr (Or.inr rfl))) (Or.inr (fun j hj => absurd hj (Nat.not_lt_zero _))) lexT_none
  rwa [show (⟨#[]⟩ : ByteArray) ++ ⟨#[32]⟩ = ba [32] from ByteArray.empty_append] at this
theorem tells_line : Tells [10] [] := by
  refine ⟨[], ?_, rfl⟩
  have := Told.join (s := ⟨#[]⟩) 10 (Or.inr (Or.inl rfl)) (Or.inl rfl) lexT_none
  rwa [show (⟨#[]⟩ : ByteArray) ++ ⟨#[10]⟩ = ba [10] from ByteArray.empty_append] at this
theorem tells_mark (c : UInt8) (k : Nat) (h1 : (c.toNat : Int) ≠ 35) (h2 : ¬ ((c.toNat : Int) = 9 ∨ (c.toNat : Int) = 10 ∨ (c.toNat : Int) = 13 ∨ (c.toNat : Int) = 32)) (h : ∀ (b : Nat → Int) (n : Nat), b 0 = (c.toNat : Int) → tokF b n 0 = .ok (⟨k, 0, ⟨#[]⟩, 0, 0⟩, 1)) : Tells [c] [⟨(k : Int), ⟨#[]⟩, 0, 0⟩] :=
  ⟨_, told_tok (ba [c]) ⟨k, 0, ⟨#[]⟩, 0, 0⟩ (by rw [ba_size]; exact Nat.zero_lt_one) (by rw [ba_bt]; exact h1) (by rw [ba_bt]; exact h2) (fun b n hb hn => h b n ((hb 0 (by rw [ba_size]; exact Nat.zero_lt_one)).trans (by rw [ba_bt]; rfl))), rfl⟩
theorem tells_is : Tells [61] [⟨4, ⟨#[]⟩, 0, 0⟩] := tells_mark 61 4 (by decide) (by decide) (fun b n h => by unfold tokF; rw [h]; rfl)
theorem tells_bar : Tells [124] [⟨5, ⟨#[]⟩, 0, 0⟩] := tells_mark 124 5 (by decide) (by decide) (fun b n h => by unfold tokF; rw [h]; rfl)
theorem tells_and : Tells [38] [⟨6, ⟨#[]⟩, 0, 0⟩] := tells_mark 38 6 (by decide) (by decide) (fun b n h => by unfold tokF; rw [h]; rfl)
theorem tells_not : Tells [126] [⟨7, ⟨#[]⟩, 0, 0⟩] := tells_mark 126 7 (by decide) (by decide) (fun b n h => by unfold tokF; rw [h]; rfl)
theorem tells_semi : Tells [59] [⟨8, ⟨#[]⟩, 0, 0⟩] := tells_mark 59 8 (by decide) (by decide) (fun b n h => by unfold tokF; rw [h]; rfl)
theorem tells_start : Tells [115, 116, 97, 114, 116, 32] [⟨3, ⟨#[]⟩, 0, 0⟩] := by
  have h : lexT ⟨#[115, 116, 97, 114, 116]⟩ = .ok [⟨3, 0, ⟨#[]⟩, 0, 0⟩] := by kernel_rfl
  have h2 := Told.join 32 (Or.inr (Or.inr (Or.inr rfl))) (Or.inr (by decide)) h
  exact ⟨_, h2, rfl⟩
theorem tellsD_name {s : ByteArray} (h : nameMayT s = true) : TellsD s.data.toList [⟨0, s, 0, 0⟩] := ⟨_, by rw [ba_of]; exact toldD_name h, rfl⟩

/-- A byte as it is written within quotes is read again. -/
theorem sign_esc (q c : UInt8) (hq : q = 34 ∨ q = 39) (b : Nat → Int) (n k : Nat) (hb : ∀ j, j < (escT q c).length → b (k + j) = PlainAid.bt (ba (escT q c)) j) (hn : k + (escT q c).length ≤ n) :
    signF b n k (q.toNat : Int) = some ((c.toNat : Int), k + (escT q c).length) := by
  have hc := c.toNat_lt
  have hq34 : (q.toNat : Int) = 34 ∨ (q.toNat : Int) = 39 := by rcases hq with e | e <;> subst e <;> simp
  unfold escT at hb hn ⊢
  by_cases h1 : c.toNat < 32 ∨ 126 < c.toNat
  · rw [if_pos h1] at hb hn ⊢
    have e0 : b k = 92 := by have := hb 0 (by simp); rw [ba_bt] at this; simpa using this
    have e1 : b (k + 1) = 120 := by have := hb 1 (by simp); rw [ba_bt] at this; simpa using this
    have e2 : b (k + 2) = ((hexT (c.toNat / 16)).toNat : Int) := by have := hb 2 (by simp); rw [ba_bt] at this; simpa using this
    have e3 : b (k + 3) = ((hexT (c.toNat % 16)).toNat : Int) := by have := hb 3 (by simp); rw [ba_bt] at this; simpa using this
    have hx : ∀ m : Fin 16, hexF ((hexT m.val).toNat : Int) = (m.val : Int) := by decide
    have x2 := hx ⟨c.toNat / 16, by omega⟩
    have x3 := hx ⟨c.toNat % 16, by omega⟩
    simp only at x2 x3
    simp only [List.length_cons, List.length_nil] at hn
    unfold signF
    rw [e0, e1, e2, e3, x2, x3]
    rw [if_neg (by omega), if_neg (by simp), if_neg (by omega), if_neg (by omega), if_neg (by omega)]
    simp only [Option.some.injEq, Prod.mk.injEq]
    exact ⟨by omega, by simp⟩
  · rw [if_neg h1] at hb hn ⊢
    by_cases h2 : c = q ∨ c = 92
    · rw [if_pos h2] at hb hn ⊢
      have e0 : b k = 92 := by have := hb 0 (by simp); rw [ba_bt] at this; simpa using this
      have e1 : b (k + 1) = (c.toNat : Int) := by have := hb 1 (by simp); rw [ba_bt] at this; simpa using this
      have hc3 : (c.toNat : Int) = 92 ∨ (c.toNat : Int) = 34 ∨ (c.toNat : Int) = 39 := by
        rcases h2 with e | e
        · subst e; omega
        · subst e; left; rfl
      simp only [List.length_cons, List.length_nil] at hn
      unfold signF
      rw [e0, e1]
      rw [if_neg (by omega), if_neg (by simp), if_neg (by omega), if_pos hc3]
      simp
    · rw [if_neg h2] at hb hn ⊢
      have e0 : b k = (c.toNat : Int) := by have := hb 0 (by simp); rw [ba_bt] at this; simpa using this
      have hne : (c.toNat : Int) ≠ (q.toNat : Int) := fun e => h2 (Or.inl (UInt8.toNat_inj.1 (by omega)))
      have hne2 : (c.toNat : Int) ≠ 92 := fun e => h2 (Or.inr (UInt8.toNat_inj.1 (by show c.toNat = 92; omega)))
      simp only [List.length_cons, List.length_nil] at hn
      unfold signF
      rw [e0, if_neg (by omega), if_pos hne2]
      simp
theorem esc_head (q c : UInt8) (hq : q = 34 ∨ q = 39) : ∃ d l, escT q c = d :: l ∧ d ≠ q := by
  unfold escT
  split
  · exact ⟨_, _, rfl, by rcases hq with e | e <;> subst e <;> decide⟩
  · split
    · exact ⟨_, _, rfl, by rcases hq with e | e <;> subst e <;> decide⟩
    · next h => exact ⟨_, _, rfl, fun e => h (Or.inl e)⟩
theorem text_esc (b : Nat → Int) (n : Nat) : ∀ (l : List UInt8) (k : Nat) (acc : List Int), (∀ j, j < (l.flatMap (escT 34) ++ [34]).length → b (k + j) = PlainAid.bt (ba (l.flatMap (escT 34) ++ [34])) j) → k + (l.flatMap (escT 34) ++ [34]).length ≤ n →
    textF b n k acc = some (acc ++ l.map (fun c => (c.toNat : Int)), k + (l.flatMap (escT 34) ++ [34]).length)
  | [], k, acc, hb, hn => by
    have e0 : b k = 34 := by have := hb 0 (by simp); rw [ba_bt] at this; simpa using this
    simp only [List.flatMap_nil, List.nil_append, List.length_cons, List.length_nil] at hn ⊢
    rw [textF_eq b n k acc (by omega), if_pos ⟨by omega, e0⟩]
    simp
  | c :: l, k, acc, hb, hn => by
    obtain ⟨d, r, hd, hne⟩ := esc_head 34 c (Or.inl rfl)
    have hl0 : 0 < (escT 34 c).length := by rw [hd]; simp
    have hfl : (c :: l).flatMap (escT 34) ++ [34] = escT 34 c ++ (l.flatMap (escT 34) ++ [34]) := by rw [List.flatMap_cons, List.append_assoc]
    rw [hfl] at hb hn ⊢
    rw [List.length_append] at hb hn ⊢
    have hb1 : ∀ j, j < (escT 34 c).length → b (k + j) = PlainAid.bt (ba (escT 34 c)) j := fun j hj => by rw [hb j (by omega), ba_bt_left _ _ _ hj]
    have hb2 : ∀ j, j < (l.flatMap (escT 34) ++ [34]).length → b (k + (escT 34 c).length + j) = PlainAid.bt (ba (l.flatMap (escT 34) ++ [34])) j := fun j hj => by
      rw [Nat.add_assoc, hb _ (by omega), ba_bt_right]
    have e0 : b k ≠ 34 := by
      have := hb1 0 hl0
      rw [ba_bt, hd] at this
      have h3 : b k = (d.toNat : Int) := by simpa using this
      rw [h3]
      intro e
      exact hne (UInt8.toNat_inj.1 (by show d.toNat = 34; omega))
    have hs := sign_esc 34 c (Or.inl rfl) b n k hb1 (by omega)
    rw [textF_eq b n k acc (by omega), if_neg (by rintro ⟨_, h⟩; exact e0 h)]
    have hs' : signF b n k 34 = some ((c.toNat : Int), k + (escT 34 c).length) := hs
    rw [hs']
    show textF b n (k + (escT 34 c).length) (acc ++ [(c.toNat : Int)]) = _
    rw [text_esc b n l _ _ hb2 (by omega)]
    simp [Nat.add_assoc]
theorem strOf_bytes (l : List UInt8) : strOf (l.map fun c => (c.toNat : Int)) = ba l := by
  unfold strOf ba
  congr 2
  rw [List.map_map]
  conv => rhs; rw [← List.map_id l]
  apply List.map_congr_left
  intro c _
  show UInt8.ofNat ((c.toNat : Int).toNat) = c
  simp
theorem tells_text (l : List UInt8) : Tells (quoT 34 l) [⟨1, ba l, 0, 0⟩] := by
  refine ⟨_, told_tok (ba (quoT 34 l)) ⟨1, 0, ba l, 0, 0⟩ (by rw [ba_size]; simp [quoT]) ?_ ?_ (fun b n hb hn => ?_), rfl⟩
  · rw [ba_bt]; simp [quoT]
  · rw [ba_bt]; simp [quoT]
  · have hq : quoT 34 l = 34 :: (l.flatMap (escT 34) ++ [34]) := by simp [quoT]
    rw [ba_size] at hb hn
    rw [ba_size]
    rw [hq] at hb hn ⊢
    have b0 : b 0 = 34 := by have := hb 0 (by simp); rw [ba_bt] at this; simpa using this
    have hb2 : ∀ j, j < (l.flatMap (escT 34) ++ [34]).length → b (0 + 1 + j) = PlainAid.bt (ba (l.flatMap (escT 34) ++ [34])) j := fun j hj => by
      rw [hb _ (by simp only [List.length_cons]; omega), ba_bt, ba_bt, show 0 + 1 + j = j + 1 by omega, List.getElem?_cons_succ]
    simp only [List.length_cons] at hn ⊢
    unfold tokF
    rw [b0, if_neg (by decide), if_pos rfl, textG, text_esc b n l (0 + 1) [] hb2 (by omega)]
    show Got.tok _ _ = _
    rw [List.nil_append, strOf_bytes]
    rw [Nat.zero_add, Nat.add_comm 1]
theorem half_esc (c : UInt8) (b : Nat → Int) (n k : Nat) (hb : ∀ j, j < (escT 39 c ++ [39]).length → b (k + j) = PlainAid.bt (ba (escT 39 c ++ [39])) j) (hn : k + (escT 39 c ++ [39]).length ≤ n) :
    half b n k = some ((c.toNat : Int), k + (escT 39 c ++ [39]).length) := by
  rw [List.length_append] at hb hn ⊢
  simp only [List.length_cons, List.length_nil] at hb hn ⊢
  have hb1 : ∀ j, j < (escT 39 c).length → b (k + j) = PlainAid.bt (ba (escT 39 c)) j := fun j hj => by rw [hb j (by omega), ba_bt_left _ _ _ hj]
  have e0 : b (k + (escT 39 c).length) = 39 := by
    have := hb (escT 39 c).length (by omega)
    rw [this]
    have := ba_bt_right (escT 39 c) [39] 0
    rw [Nat.add_zero] at this
    rw [this]; rfl
  unfold half
  have hs : signF b n k 39 = some ((c.toNat : Int), k + (escT 39 c).length) := sign_esc 39 c (Or.inr rfl) b n k hb1 (by omega)
  rw [hs]
  show (if n ≤ k + (escT 39 c).length ∨ b (k + (escT 39 c).length) ≠ 39 then none else _) = _
  rw [if_neg (by rw [e0]; omega)]
  simp [Nat.add_assoc]
theorem tells_range (a c : UInt8) : Tells (quoT 39 [a] ++ [46, 46] ++ quoT 39 [c]) [⟨2, ⟨#[]⟩, (a.toNat : Int), (c.toNat : Int)⟩] := by
  have hq : quoT 39 [a] ++ [46, 46] ++ quoT 39 [c] = 39 :: ((escT 39 a ++ [39]) ++ (46 :: 46 :: 39 :: (escT 39 c ++ [39]))) := by simp [quoT]
  rw [hq]
  generalize hx : escT 39 a ++ [39] = x
  generalize hy : escT 39 c ++ [39] = y
  refine ⟨_, told_tok (ba _) ⟨2, 0, ⟨#[]⟩, (a.toNat : Int), (c.toNat : Int)⟩ (by rw [ba_size]; simp) (by rw [ba_bt]; simp) (by rw [ba_bt]; simp) (fun b n hb hn => ?_), rfl⟩
  rw [ba_size] at hb hn
  rw [ba_size]
  have hlen : (39 :: (x ++ (46 :: 46 :: 39 :: y))).length = 1 + x.length + 3 + y.length := by simp; omega
  rw [hlen] at hb hn ⊢
  have g : ∀ j, j < x.length → b (0 + 1 + j) = PlainAid.bt (ba x) j := fun j hj => by
    rw [hb _ (by omega), ba_bt, ba_bt, show 0 + 1 + j = j + 1 by omega, List.getElem?_cons_succ, List.getElem?_append_left hj]
  have g2 : ∀ j, j < y.length + 3 → b (1 + x.length + j) = PlainAid.bt (ba (46 :: 46 :: 39 :: y)) j := fun j hj => by
    rw [hb _ (by omega), ba_bt, ba_bt, show 1 + x.length + j = (x.length + j) + 1 by omega, List.getElem?_cons_succ, List.getElem?_append_right (by omega), show x.length + j - x.length = j by omega]
  have b0 : b 0 = 39 := by rw [hb 0 (by omega), ba_bt]; rfl
  have d0 : b (1 + x.length) = 46 := by have := g2 0 (by omega); rw [ba_bt] at this; simpa using this
  have d1 : b (1 + x.length + 1) = 46 := by have := g2 1 (by omega); rw [ba_bt] at this; simpa using this
  have d2 : b (1 + x.length + 2) = 39 := by have := g2 2 (by omega); rw [ba_bt] at this; simpa using this
  have g3 : ∀ j, j < y.length → b (1 + x.length + 2 + 1 + j) = PlainAid.bt (ba y) j := fun j hj => by
    rw [show 1 + x.length + 2 + 1 + j = 1 + x.length + (j + 3) by omega, g2 _ (by omega), ba_bt, ba_bt]; rfl
  subst hx hy
  have h1 := half_esc a b n (0 + 1) g (by omega)
  have h2 := half_esc c b n (1 + (escT 39 a ++ [39]).length + 2 + 1) g3 (by omega)
  have h1 : half b n (0 + 1) = some ((a.toNat : Int), 1 + (escT 39 a ++ [39]).length) := by rw [h1, Nat.zero_add]
  have hd : dots b n (1 + (escT 39 a ++ [39]).length) := dots_mk ⟨by omega, d0, d1⟩
  have ho : oneF b n (1 + (escT 39 a ++ [39]).length + 2) = some ((c.toNat : Int), 1 + (escT 39 a ++ [39]).length + 2 + 1 + (escT 39 c ++ [39]).length) := by
    rw [oneF_half, if_neg (by rw [d2]; omega), h2]
  unfold tokF
  rw [b0, if_neg (by decide), if_neg (by decide), if_pos rfl, rangeG, rangeF, h1]
  show (match (if dots b n (1 + (escT 39 a ++ [39]).length) then match oneF b n (1 + (escT 39 a ++ [39]).length + 2) with
      | none => none
      | some (d, to2) => some ((a.toNat : Int), d, to2)
    else some ((a.toNat : Int), (a.toNat : Int), 1 + (escT 39 a ++ [39]).length)) with
    | none => Got.noText
    | some (c, d, to) => Got.tok ⟨2, 0, ⟨#[]⟩, c, d⟩ to) = _
  rw [if_pos hd, ho]
end Go.Proofs.Ytkkmjgohjaedkaa
/- A grammar's text: what it declares. No program in sight. -/
namespace Go.Proofs.Ytkkmjgohjaedkaa
set_option linter.unusedVariables false

def takeI (p : Pm) (i : It) : Option Pm := take p ⟨i.kind.toNat, 0, i.text, i.lo, i.hi⟩
theorem take_st (p : Pm) (t : Tok) : take p t = takeI p t.st := by
  obtain ⟨k, pl, tx, lo, hi⟩ := t
  obtain ⟨st, a, b, c, d, e, f, g, h⟩ := p
  match st with
  | 0 => rfl
  | 1 => rfl
  | 2 => rfl
  | 3 => rfl
  | 4 => rfl
  | 5 => rfl
  | st + 6 => rfl
def feedI : Pm → List It → Option Pm
  | p, [] => some p
  | p, i :: l => match takeI p i with
    | none => none
    | some q => feedI q l
theorem feed_st : ∀ (l : List Tok) (p q : Pm), feedI p (l.map Tok.st) = some q → feed p l = .ok q
  | [], p, q, h => by
    have h' : some p = some q := h
    injection h' with h'; subst h'; rfl
  | t :: l, p, q, h => by
    have h' : (match takeI p t.st with | none => none | some q => feedI q (l.map Tok.st)) = some q := h
    unfold feed
    rw [take_st]
    cases hx : takeI p t.st with
    | none => rw [hx] at h'; cases h'
    | some r => rw [hx] at h'; exact feed_st l r q h'
theorem feedI_app : ∀ (l m : List It) (p q : Pm), feedI p l = some q → feedI p (l ++ m) = feedI q m
  | [], m, p, q, h => by
    have h' : some p = some q := h
    injection h' with h'; subst h'; rfl
  | i :: l, m, p, q, h => by
    have h' : (match takeI p i with | none => none | some q => feedI q l) = some q := h
    show (match takeI p i with | none => none | some q => feedI q (l ++ m)) = feedI q m
    cases hx : takeI p i with
    | none => rw [hx] at h'; cases h'
    | some r => rw [hx] at h'; exact feedI_app l m r q h'
theorem feedI_one (p q : Pm) (i : It) (h : takeI p i = some q) : feedI p [i] = some q := by
  show (match takeI p i with | none => none | some q => some q) = some q
  rw [h]

def itemP : Part → It
  | .inl l => ⟨1, ba l, 0, 0⟩
  | .inr (.inl (a, c)) => ⟨2, ⟨#[]⟩, (a.toNat : Int), (c.toNat : Int)⟩
  | .inr (.inr s) => ⟨0, s, 0, 0⟩
def PartOk (p : Part) : Prop := ∀ s, p = .inr (.inr s) → nameMayT s = true
theorem tellsD_part (p : Part) (h : PartOk p) : TellsD (partT p) [itemP p] := by
  match p, h with
  | .inl l, _ => exact (tells_text l).d
  | .inr (.inl (a, c)), _ => exact (tells_range a c).d
  | .inr (.inr s), h => exact tellsD_name (h s rfl)
def joinI (sep : List It) (u : Nat → List It) : Nat → List It
  | 0 => []
  | k + 1 => joinI sep u k ++ (if 0 < k then sep else []) ++ u k
theorem tellsD_join (sep : List UInt8) (si : List It) (hs : Tells sep si) (hc : Cutting sep) (t : Nat → List UInt8) (u : Nat → List It) (n : Nat) (h : ∀ i, i < n → TellsD (t i) (u i)) : ∀ k, k ≤ n → TellsD (joinN sep t k) (joinI si u k)
  | 0, _ => tells_nil.d
  | k + 1, hk => by
    have ih := tellsD_join sep si hs hc t u n h k (by omega)
    have hk' := h k (by omega)
    by_cases h0 : 0 < k
    · simp only [joinN, joinI, if_pos h0, List.append_assoc]
      exact ih.app (hs.appD hk') hc.app
    · obtain rfl : k = 0 := by omega
      simpa [joinN, joinI] using hk'
def cjOf (names : List ByteArray) (c : Cn) : Cj := ⟨c.neg, (partsT names c.seq).map itemP⟩
def conjI (names : List ByteArray) (c : Cn) : List It := (if c.neg then [⟨7, ⟨#[]⟩, 0, 0⟩] else []) ++ (partsT names c.seq).map itemP
def ConjOk (names : List ByteArray) (c : Cn) : Prop := ∀ p, p ∈ partsT names c.seq → PartOk p
theorem joinI_items (ps : List Part) : ∀ k, k ≤ ps.length → joinI [] (fun i => [itemP (ps.getD i (.inl []))]) k = (ps.take k).map itemP
  | 0, _ => by simp [joinI]
  | k + 1, hk => by
    have e : ps.take (k + 1) = ps.take k ++ [ps.getD k (.inl [])] := by rw [List.take_add_one, List.getD, List.getElem?_eq_getElem (by omega)]; rfl
    rw [joinI, joinI_items ps k (by omega), e, List.map_append]
    simp
theorem tellsD_conj (names : List ByteArray) (c : Cn) (h : ConjOk names c) : TellsD (conjT names c) (conjI names c) := by
  have h1 := tellsD_join [32] [] tells_blank ⟨32, [], rfl, rfl⟩ (partAt (partsT names c.seq)) (fun i => [itemP ((partsT names c.seq).getD i (.inl []))]) (partsT names c.seq).length (fun i hi => by
    unfold partAt
    refine tellsD_part _ (h _ ?_)
    rw [List.getD, List.getElem?_eq_getElem hi]
    exact List.getElem_mem hi) _ (Nat.le_refl _)
  rw [joinI_items _ _ (Nat.le_refl _), List.take_length] at h1
  unfold conjT conjI
  cases c.neg with
  | true => exact tells_not.appD h1
  | false => exact tells_nil.appD h1
theorem tells_amp : Tells [32, 38, 32] [⟨6, ⟨#[]⟩, 0, 0⟩] := (tells_blank.app tells_and).app tells_blank
theorem tells_or : Tells [32, 124, 32] [⟨5, ⟨#[]⟩, 0, 0⟩] := (tells_blank.app tells_bar).app tells_blank
def conjsI (names : List ByteArray) (l : List Cn) : List It := joinI [⟨6, ⟨#[]⟩, 0, 0⟩] (fun i => conjI names (l.getD i ⟨false, []⟩)) l.length
theorem tellsD_conjs (names : List ByteArray) (l : List Cn) (h : ∀ c, c ∈ l → ConjOk names c) : TellsD (conjsT names l) (conjsI names l) :=
  tellsD_join _ _ tells_amp ⟨32, _, rfl, rfl⟩ _ _ l.length (fun i hi => tellsD_conj names _ (h _ (getD_mem _ hi))) _ (Nat.le_refl _)
def altsI (names : List ByteArray) (l : List Ru) : List It := joinI [⟨5, ⟨#[]⟩, 0, 0⟩] (fun i => conjsI names (l.getD i ⟨0, []⟩).conj) l.length
theorem tellsD_alts (names : List ByteArray) (l : List Ru) (h : ∀ r, r ∈ l → ∀ c, c ∈ r.conj → ConjOk names c) : TellsD (altsT names l) (altsI names l) :=
  tellsD_join _ _ tells_or ⟨32, _, rfl, rfl⟩ _ _ l.length (fun i hi => tellsD_conjs names _ (h _ (getD_mem _ hi))) _ (Nat.le_refl _)
def defI (names : List ByteArray) (rules : List Ru) (k : Nat) : List It := [⟨0, names.getD k ⟨#[]⟩, 0, 0⟩, ⟨4, ⟨#[]⟩, 0, 0⟩] ++ altsI names (rulesOfT rules k) ++ [⟨8, ⟨#[]⟩, 0, 0⟩]
theorem tells_def (names : List ByteArray) (rules : List Ru) (k : Nat) (hn : nameMayT (names.getD k ⟨#[]⟩) = true) (h : ∀ r, r ∈ rules → ∀ c, c ∈ r.conj → ConjOk names c) : Tells (defT names rules k) (defI names rules k) := by
  have h1 : Tells [32, 61, 32] [⟨4, ⟨#[]⟩, 0, 0⟩] := (tells_blank.app tells_is).app tells_blank
  have h2 := (tellsD_name hn).tells h1 ⟨32, _, rfl, rfl⟩
  have h3 := tellsD_alts names (rulesOfT rules k) (fun r hr => h r (List.mem_filter.1 hr).1)
  have h4 : Tells [59, 10] [⟨8, ⟨#[]⟩, 0, 0⟩] := tells_semi.app tells_line
  exact (h2.appD h3).tells h4 ⟨59, _, rfl, rfl⟩
def defsI (names : List ByteArray) (rules : List Ru) : Nat → List It
  | 0 => []
  | k + 1 => defsI names rules k ++ defI names rules k
theorem tells_defs (names : List ByteArray) (rules : List Ru) (hn : ∀ s, s ∈ names → nameMayT s = true) (h : ∀ r, r ∈ rules → ∀ c, c ∈ r.conj → ConjOk names c) : ∀ k, k ≤ names.length → Tells (defsT names rules k) (defsI names rules k)
  | 0, _ => tells_nil
  | k + 1, hk => (tells_defs names rules hn h k (by omega)).app (tells_def names rules k (hn _ (getD_mem _ (by omega))) h)
def showI (g : Gr) : List It := [⟨3, ⟨#[]⟩, 0, 0⟩, ⟨0, g.names.getD g.start.toNat ⟨#[]⟩, 0, 0⟩, ⟨8, ⟨#[]⟩, 0, 0⟩] ++ defsI g.names g.rules g.names.length
theorem tells_show (g : Gr) (hs : g.start.toNat < g.names.length) (hn : ∀ s, s ∈ g.names → nameMayT s = true) (h : ∀ r, r ∈ g.rules → ∀ c, c ∈ r.conj → ConjOk g.names c) : Tells (showL g) (showI g) := by
  have h1 := tells_start.appD (tellsD_name (hn _ (getD_mem ⟨#[]⟩ hs)))
  have h4 : Tells [59, 10] [⟨8, ⟨#[]⟩, 0, 0⟩] := tells_semi.app tells_line
  exact (h1.tells h4 ⟨59, _, rfl, rfl⟩).app (tells_defs g.names g.rules hn h _ (Nat.le_refl _))

/- The parser's way through it. -/
theorem take_item (x : Part) (p : Pm) (h : p.st = 4 ∨ p.st = 5 ∨ p.st = 6) : takeI p (itemP x) = some ⟨6, p.starts, p.defs, p.start, p.name, p.alts, p.alt, p.neg, p.items ++ [itemP x]⟩ := by
  obtain ⟨st, a, b, c, d, e, f, g, i⟩ := p
  have h' : st = 4 ∨ st = 5 ∨ st = 6 := h
  match x with
  | .inl l => rcases h' with e | e | e <;> subst e <;> rfl
  | .inr (.inl (u, v)) => rcases h' with e | e | e <;> subst e <;> rfl
  | .inr (.inr s) => rcases h' with e | e | e <;> subst e <;> rfl
theorem feed_items : ∀ (ps : List Part) (p : Pm), (p.st = 4 ∨ p.st = 5 ∨ p.st = 6) → ps ≠ [] → feedI p (ps.map itemP) = some ⟨6, p.starts, p.defs, p.start, p.name, p.alts, p.alt, p.neg, p.items ++ ps.map itemP⟩
  | [], p, _, h => absurd rfl h
  | [x], p, h, _ => feedI_one _ _ _ (take_item x p h)
  | x :: y :: ps, p, h, _ => by
    show (match takeI p (itemP x) with | none => none | some q => feedI q ((y :: ps).map itemP)) = _
    rw [take_item x p h]
    show feedI _ ((y :: ps).map itemP) = _
    rw [feed_items (y :: ps) _ (Or.inr (Or.inr rfl)) (by simp)]
    simp
theorem symP_ne (names : List ByteArray) (ps : List Part) (s : Sy) : symP names ps s ≠ [] := by
  unfold symP
  split
  · simp
  · split
    · simp
    · match ps with
      | [] => simp [addT]
      | [.inl l] => simp [addT]
      | [.inr x] => simp [addT]
      | p :: q :: ps => simp [addT]
theorem foldl_ne (names : List ByteArray) : ∀ (l : List Sy) (ps : List Part), ps ≠ [] → l.foldl (symP names) ps ≠ []
  | [], ps, h => h
  | s :: l, ps, h => foldl_ne names l _ (symP_ne names ps s)
theorem partsT_ne (names : List ByteArray) (l : List Sy) : partsT names l ≠ [] := by
  unfold partsT
  match l with
  | [] => simp
  | s :: l => exact foldl_ne names l _ (symP_ne names [] s)
theorem feed_conj (names : List ByteArray) (c : Cn) (p : Pm) (hst : p.st = 4) (hneg : p.neg = false) (hit : p.items = []) :
    feedI p (conjI names c) = some ⟨6, p.starts, p.defs, p.start, p.name, p.alts, p.alt, (cjOf names c).neg, (cjOf names c).items⟩ := by
  obtain ⟨st, a, b, c', d, e, f, g, i⟩ := p
  simp only at hst hneg hit
  subst hst hneg hit
  unfold conjI cjOf
  cases c.neg with
  | true =>
    show feedI _ ([_] ++ _) = _
    rw [feedI_app [_] _ _ ⟨5, a, b, c', d, e, f, true, []⟩ rfl, feed_items _ _ (Or.inr (Or.inl rfl)) (partsT_ne _ _)]
    rfl
  | false =>
    show feedI _ ([] ++ _) = _
    rw [List.nil_append, feed_items _ _ (Or.inl rfl) (partsT_ne _ _)]
    rfl
theorem take_succ_getD {α β : Type} (f : α → β) {l : List α} {k : Nat} (d : α) (h : k < l.length) : (l.take (k + 1)).map f = (l.take k).map f ++ [f (l.getD k d)] := by
  have e : l.take (k + 1) = l.take k ++ [l.getD k d] := by rw [List.take_add_one, List.getD, List.getElem?_eq_getElem h]; rfl
  rw [e, List.map_append]; rfl
theorem feed_conjs (names : List ByteArray) (l : List Cn) (p : Pm) (hst : p.st = 4) (hneg : p.neg = false) (hit : p.items = []) : ∀ k, k < l.length →
    feedI p (joinI [⟨6, ⟨#[]⟩, 0, 0⟩] (fun i => conjI names (l.getD i ⟨false, []⟩)) (k + 1)) = some ⟨6, p.starts, p.defs, p.start, p.name, p.alts, p.alt ++ (l.take k).map (cjOf names), (cjOf names (l.getD k ⟨false, []⟩)).neg, (cjOf names (l.getD k ⟨false, []⟩)).items⟩
  | 0, hk => by
    have := feed_conj names (l.getD 0 ⟨false, []⟩) p hst hneg hit
    simpa [joinI] using this
  | k + 1, hk => by
    have ih := feed_conjs names l p hst hneg hit k (by omega)
    rw [joinI, if_pos (Nat.succ_pos k), List.append_assoc, feedI_app _ _ _ _ ih]
    rw [feedI_app [_] _ _ ⟨4, p.starts, p.defs, p.start, p.name, p.alts, (p.alt ++ (l.take k).map (cjOf names)) ++ [⟨(cjOf names (l.getD k ⟨false, []⟩)).neg, (cjOf names (l.getD k ⟨false, []⟩)).items⟩], false, []⟩ rfl, feed_conj names _ _ rfl rfl rfl]
    rw [take_succ_getD (cjOf names) ⟨false, []⟩ (by omega : k < l.length), List.append_assoc]
theorem feed_conjs_all (names : List ByteArray) (l : List Cn) (hl : l ≠ []) (p : Pm) (hst : p.st = 4) (hneg : p.neg = false) (hit : p.items = []) : ∃ a c, feedI p (conjsI names l) = some ⟨6, p.starts, p.defs, p.start, p.name, p.alts, a, c.neg, c.items⟩ ∧ a ++ [c] = p.alt ++ l.map (cjOf names) := by
  have h0 : 0 < l.length := List.length_pos_iff.2 hl
  have h := feed_conjs names l p hst hneg hit (l.length - 1) (by omega)
  rw [show l.length - 1 + 1 = l.length by omega] at h
  refine ⟨_, _, h, ?_⟩
  rw [List.append_assoc, ← take_succ_getD (cjOf names) ⟨false, []⟩ (by omega : l.length - 1 < l.length), show l.length - 1 + 1 = l.length by omega, List.take_length]
def altOf (names : List ByteArray) (r : Ru) : List Cj := r.conj.map (cjOf names)
theorem feed_alts (names : List ByteArray) (l : List Ru) (hl : ∀ r, r ∈ l → r.conj ≠ []) (p : Pm) (hst : p.st = 4) (hneg : p.neg = false) (hit : p.items = []) (halt : p.alt = []) : ∀ k, k < l.length →
    ∃ a c, feedI p (joinI [⟨5, ⟨#[]⟩, 0, 0⟩] (fun i => conjsI names (l.getD i ⟨0, []⟩).conj) (k + 1)) = some ⟨6, p.starts, p.defs, p.start, p.name, p.alts ++ (l.take k).map (altOf names), a, c.neg, c.items⟩ ∧ a ++ [c] = altOf names (l.getD k ⟨0, []⟩)
  | 0, hk => by
    obtain ⟨a, c, h1, h2⟩ := feed_conjs_all names (l.getD 0 ⟨0, []⟩).conj (hl _ (getD_mem _ hk)) p hst hneg hit
    rw [halt, List.nil_append] at h2
    exact ⟨a, c, by simpa [joinI] using h1, h2⟩
  | k + 1, hk => by
    obtain ⟨a, c, ih, h2⟩ := feed_alts names l hl p hst hneg hit halt k (by omega)
    have step : takeI ⟨6, p.starts, p.defs, p.start, p.name, p.alts ++ (l.take k).map (altOf names), a, c.neg, c.items⟩ ⟨5, ⟨#[]⟩, 0, 0⟩ = some ⟨4, p.starts, p.defs, p.start, p.name, p.alts ++ (l.take (k + 1)).map (altOf names), [], false, []⟩ := by
      rw [take_succ_getD (altOf names) ⟨0, []⟩ (by omega : k < l.length), ← List.append_assoc, ← h2]
      rfl
    obtain ⟨a', c', h3, h4⟩ := feed_conjs_all names (l.getD (k + 1) ⟨0, []⟩).conj (hl _ (getD_mem _ hk)) ⟨4, p.starts, p.defs, p.start, p.name, p.alts ++ (l.take (k + 1)).map (altOf names), [], false, []⟩ rfl rfl rfl
    refine ⟨a', c', ?_, by rw [h4]; rfl⟩
    rw [joinI, if_pos (Nat.succ_pos k), List.append_assoc, feedI_app _ _ _ _ ih, feedI_app [_] _ _ _ (feedI_one _ _ _ step), h3]
theorem feed_def (names : List ByteArray) (rules : List Ru) (k : Nat) (hl : ∀ r, r ∈ rules → r.conj ≠ []) (hk : rulesOfT rules k ≠ []) (starts : List ByteArray) (defs : List Df) (start nm : ByteArray) :
    feedI ⟨0, starts, defs, start, nm, [], [], false, []⟩ (defI names rules k) = some ⟨0, starts, defs ++ [⟨names.getD k ⟨#[]⟩, (rulesOfT rules k).map (altOf names)⟩], start, ⟨#[]⟩, [], [], false, []⟩ := by
  have h0 : 0 < (rulesOfT rules k).length := List.length_pos_iff.2 hk
  obtain ⟨a, c, h1, h2⟩ := feed_alts names (rulesOfT rules k) (fun r hr => hl r (List.mem_filter.1 hr).1) ⟨4, starts, defs, start, names.getD k ⟨#[]⟩, [], [], false, []⟩ rfl rfl rfl rfl ((rulesOfT rules k).length - 1) (by omega)
  rw [show (rulesOfT rules k).length - 1 + 1 = (rulesOfT rules k).length by omega] at h1
  unfold defI
  rw [List.append_assoc, feedI_app [_, _] _ _ ⟨4, starts, defs, start, names.getD k ⟨#[]⟩, [], [], false, []⟩ rfl]
  unfold altsI
  rw [feedI_app _ _ _ _ h1]
  refine feedI_one _ _ _ ?_
  have e : (rulesOfT rules k).map (altOf names) = ((rulesOfT rules k).take ((rulesOfT rules k).length - 1)).map (altOf names) ++ [a ++ [c]] := by
    rw [h2, ← take_succ_getD (altOf names) ⟨0, []⟩ (by omega : (rulesOfT rules k).length - 1 < _), show (rulesOfT rules k).length - 1 + 1 = (rulesOfT rules k).length by omega, List.take_length]
  rw [e]
  rfl
def dfOf (names : List ByteArray) (rules : List Ru) (k : Nat) : Df := ⟨names.getD k ⟨#[]⟩, (rulesOfT rules k).map (altOf names)⟩
theorem feed_defs (names : List ByteArray) (rules : List Ru) (hl : ∀ r, r ∈ rules → r.conj ≠ []) (hk : ∀ k, k < names.length → rulesOfT rules k ≠ []) (starts : List ByteArray) (start : ByteArray) : ∀ k, k ≤ names.length →
    ∃ nm, feedI ⟨0, starts, [], start, ⟨#[]⟩, [], [], false, []⟩ (defsI names rules k) = some ⟨0, starts, (List.range k).map (dfOf names rules), start, nm, [], [], false, []⟩
  | 0, _ => ⟨⟨#[]⟩, rfl⟩
  | k + 1, h => by
    obtain ⟨nm, ih⟩ := feed_defs names rules hl hk starts start k (by omega)
    refine ⟨⟨#[]⟩, ?_⟩
    rw [defsI, feedI_app _ _ _ _ ih, feed_def names rules k hl (hk k (by omega)), List.range_succ, List.map_append]
    rfl
def rawOf (g : Gr) : Rw := ⟨[g.names.getD g.start.toNat ⟨#[]⟩], (List.range g.names.length).map (dfOf g.names g.rules)⟩
theorem feed_show (g : Gr) (hl : ∀ r, r ∈ g.rules → r.conj ≠ []) (hk : ∀ k, k < g.names.length → rulesOfT g.rules k ≠ []) : ∃ p, feedI pm0 (showI g) = some p ∧ p.st = 0 ∧ p.starts = (rawOf g).starts ∧ p.defs = (rawOf g).defs := by
  obtain ⟨nm, h⟩ := feed_defs g.names g.rules hl hk [g.names.getD g.start.toNat ⟨#[]⟩] (g.names.getD g.start.toNat ⟨#[]⟩) g.names.length (Nat.le_refl _)
  refine ⟨⟨0, (rawOf g).starts, (rawOf g).defs, g.names.getD g.start.toNat ⟨#[]⟩, nm, [], [], false, []⟩, ?_, rfl, rfl, rfl⟩
  unfold showI
  rw [feedI_app [_, _, _] _ _ ⟨0, [g.names.getD g.start.toNat ⟨#[]⟩], [], g.names.getD g.start.toNat ⟨#[]⟩, ⟨#[]⟩, [], [], false, []⟩ rfl, h]
  rfl
end Go.Proofs.Ytkkmjgohjaedkaa
/- A grammar's text makes the same grammar again. No program in sight. -/
namespace Go.Proofs.Ytkkmjgohjaedkaa
set_option linter.unusedVariables false

/- What a grammar that may be has. -/
theorem known_of_place {l : List ByteArray} {s : ByteArray} {k : Nat} (h : place l s = some k) : known l s = true := by unfold known; rw [h]; rfl
theorem place_app (a r : List ByteArray) (s : ByteArray) (h : known a s = false) : place (a ++ s :: r) s = some a.length := by
  induction a with
  | nil => simp [place]
  | cons x a ih =>
    unfold known place at h
    by_cases e : x = s
    · rw [if_pos e] at h; cases h
    · rw [if_neg e] at h
      have h' : known a s = false := by
        unfold known
        cases hp : place a s with
        | none => rfl
        | some k => rw [hp] at h; cases h
      show (if x = s then some 0 else (place (a ++ s :: r) s).map (· + 1)) = _
      rw [if_neg e, ih h']
      simp
theorem againT_le : ∀ (l seen : List ByteArray) (i : Nat), i ≤ againT seen l i ∧ againT seen l i ≤ i + l.length
  | [], seen, i => ⟨Nat.le_refl _, Nat.le_refl _⟩
  | s :: l, seen, i => by
    show i ≤ (if known seen s = true then i else againT (seen ++ [s]) l (i + 1)) ∧ (if known seen s = true then i else againT (seen ++ [s]) l (i + 1)) ≤ _
    have := againT_le l (seen ++ [s]) (i + 1)
    split
    · simp
    · simp only [List.length_cons]; omega
theorem again_fresh : ∀ (l seen : List ByteArray) (i : Nat), againT seen l i = i + l.length → ∀ (k : Nat) (s : ByteArray), l[k]? = some s → known (seen ++ l.take k) s = false
  | [], seen, i, _, k, s, h => by simp at h
  | x :: l, seen, i, h, k, s, hk => by
    have h' : (if known seen x = true then i else againT (seen ++ [x]) l (i + 1)) = i + (l.length + 1) := h
    by_cases hx : known seen x = true
    · rw [if_pos hx] at h'; omega
    · rw [if_neg hx] at h'
      match k, hk with
      | 0, hk =>
        obtain rfl : x = s := by simpa using hk
        simpa using hx
      | k + 1, hk =>
        have := again_fresh l (seen ++ [x]) (i + 1) (by omega) k s (by simpa using hk)
        simpa using this
theorem place_at {l : List ByteArray} (h : again l = l.length) {k : Nat} (hk : k < l.length) (d : ByteArray) : place l (l.getD k d) = some k := by
  have e : l[k]? = some (l.getD k d) := by rw [List.getD, List.getElem?_eq_getElem hk]; rfl
  have h1 := again_fresh l [] 0 (by rw [Nat.zero_add]; exact h) k _ e
  rw [List.nil_append] at h1
  have h2 : l = l.take k ++ (l.getD k d) :: l.drop (k + 1) := by
    conv => lhs; rw [← List.take_append_drop k l]
    congr 1
    rw [List.drop_eq_getElem_cons hk, List.getD, List.getElem?_eq_getElem hk]; rfl
  generalize l.getD k d = s at *
  conv => lhs; rw [h2]
  rw [place_app _ _ _ h1, List.length_take]
  congr 1
  omega
theorem heads_in (K : Nat) : ∀ (l : List Ru) (last : Int), mayHeads K last l = true → ∀ r, r ∈ l → last ≤ r.head ∧ 0 ≤ r.head ∧ r.head < (K : Int)
  | [], _, _, r, h => by simp at h
  | x :: l, last, h, r, hr => by
    simp only [mayHeads, isNum, Bool.and_eq_true, Bool.or_eq_true, decide_eq_true_eq] at h
    obtain ⟨⟨h1, h2⟩, h3, h4⟩ := h
    rcases List.mem_cons.1 hr with e | e
    · subst e; omega
    · have := heads_in K l x.head h4 r e; omega
theorem heads_sorted (K : Nat) : ∀ (l : List Ru) (last : Int), mayHeads K last l = true → l.Pairwise (fun a b => a.head ≤ b.head)
  | [], _, _ => List.Pairwise.nil
  | x :: l, last, h => by
    simp only [mayHeads, isNum, Bool.and_eq_true, Bool.or_eq_true, decide_eq_true_eq] at h
    obtain ⟨_, _, h4⟩ := h
    exact List.Pairwise.cons (fun r hr => (heads_in K l x.head h4 r hr).1) (heads_sorted K l _ h4)
theorem heads_all (K : Nat) : ∀ (l : List Ru) (last : Int), mayHeads K last l = true → ∀ k : Int, last < k → k < (K : Int) → ∃ r, r ∈ l ∧ r.head = k
  | [], last, h, k, h1, h2 => by
    simp only [mayHeads, decide_eq_true_eq] at h
    omega
  | x :: l, last, h, k, h1, h2 => by
    simp only [mayHeads, isNum, Bool.and_eq_true, Bool.or_eq_true, decide_eq_true_eq] at h
    obtain ⟨_, h3, h4⟩ := h
    by_cases e : x.head = k
    · exact ⟨x, List.mem_cons_self, e⟩
    · obtain ⟨r, hr, hk⟩ := heads_all K l x.head h4 k (by omega) h2
      exact ⟨r, List.mem_cons_of_mem _ hr, hk⟩
theorem filter_join (k : Nat) : ∀ l : List Ru, l.Pairwise (fun a b => a.head ≤ b.head) →
    l.filter (fun r => decide (0 ≤ r.head ∧ r.head < (k : Int))) ++ l.filter (fun r => decide (r.head = (k : Int))) = l.filter (fun r => decide (0 ≤ r.head ∧ r.head < ((k + 1 : Nat) : Int)))
  | [], _ => rfl
  | x :: l, h => by
    obtain ⟨h1, h2⟩ := List.pairwise_cons.1 h
    have ih := filter_join k l h2
    by_cases e : x.head = (k : Int)
    · have e0 : l.filter (fun r => decide (0 ≤ r.head ∧ r.head < (k : Int))) = [] := by
        rw [List.filter_eq_nil_iff]
        intro r hr
        have := h1 r hr
        simp only [decide_eq_true_eq]; omega
      rw [e0, List.nil_append] at ih
      rw [List.filter_cons_of_neg (by simp only [decide_eq_true_eq]; omega), e0, List.nil_append, List.filter_cons_of_pos (by simp only [decide_eq_true_eq]; exact e), List.filter_cons_of_pos (by simp only [decide_eq_true_eq]; omega), ih]
    · by_cases h3 : 0 ≤ x.head ∧ x.head < (k : Int)
      · rw [List.filter_cons_of_pos (by simp only [decide_eq_true_eq]; exact h3), List.filter_cons_of_neg (by simp only [decide_eq_true_eq]; exact e), List.filter_cons_of_pos (by simp only [decide_eq_true_eq]; omega), List.cons_append, ih]
      · rw [List.filter_cons_of_neg (by simp only [decide_eq_true_eq]; exact h3), List.filter_cons_of_neg (by simp only [decide_eq_true_eq]; exact e), List.filter_cons_of_neg (by simp only [decide_eq_true_eq]; omega), ih]
theorem range_rules (l : List Ru) (h : l.Pairwise (fun a b => a.head ≤ b.head)) : ∀ k : Nat, (List.range k).flatMap (rulesOfT l) = l.filter (fun r => decide (0 ≤ r.head ∧ r.head < (k : Int)))
  | 0 => by
    symm
    simp only [List.range_zero, List.flatMap_nil]
    rw [List.filter_eq_nil_iff]
    intro r _
    simp only [decide_eq_true_eq]; omega
  | k + 1 => by
    rw [List.range_succ, List.flatMap_append, range_rules l h k, ← filter_join k l h]
    simp [rulesOfT]
/-- What a grammar has that may be. -/
structure Mays (g : Gr) : Prop where
  n1 : 1 ≤ g.names.length
  n2 : g.names.length ≤ 64
  nm : ∀ s, s ∈ g.names → nameMayT s = true
  ag : again g.names = g.names.length
  st : 0 ≤ g.start ∧ g.start < (g.names.length : Int)
  hd : mayHeads g.names.length (-1) g.rules = true
  r2 : g.rules.length ≤ 256
  sy : (g.rules.map symsR).sum ≤ 1024
  ru : ∀ r, r ∈ g.rules → 1 ≤ r.conj.length ∧ r.conj.length ≤ 8 ∧ ∀ c, c ∈ r.conj → mayRow g.names.length c.seq = true
theorem mays {g : Gr} (h : mayG g = true) : Mays g := by
  simp only [mayG, mayNames, mayRules, isNum, Bool.and_eq_true, decide_eq_true_eq, List.all_eq_true] at h
  obtain ⟨⟨h1, h2, h3, h4⟩, ⟨h5, h6⟩, h7, h8, h9, h10⟩ := h
  obtain ⟨h11, h12⟩ := mayRs_spec _ _ _ h10 (by omega)
  exact ⟨h1, h2, fun s hs => by rw [← isName_eq]; exact h3 s hs, h4, ⟨h5, h6⟩, h7, h9, by omega, h12⟩

/- The parts of a row of symbols. -/
theorem symT_name (names : List ByteArray) (s : ByteArray) : symT names (itemP (.inr (.inr s))) = [⟨numOf names s, 0, 0⟩] := rfl
theorem symT_span (names : List ByteArray) (a c : UInt8) : symT names (itemP (.inr (.inl (a, c)))) = [⟨-1, (a.toNat : Int), (c.toNat : Int)⟩] := rfl
theorem symT_text (names : List ByteArray) (l : List UInt8) : symT names (itemP (.inl l)) = l.map fun c => ⟨-1, (c.toNat : Int), (c.toNat : Int)⟩ := by
  show bytesT (ba l) = _
  simp [bytesT, ba]
theorem rowT_add (names : List ByteArray) (c : UInt8) : ∀ ps : List Part, rowT names ((addT ps c).map itemP) = rowT names (ps.map itemP) ++ [⟨-1, (c.toNat : Int), (c.toNat : Int)⟩]
  | [] => by simp [addT, rowT, symT_text]
  | [.inl l] => by simp [addT, rowT, symT_text]
  | [.inr x] => by simp [addT, rowT, symT_text]
  | p :: q :: ps => by
    have ih := rowT_add names c (q :: ps)
    simp only [addT, List.map_cons, rowT, List.flatMap_cons] at ih ⊢
    rw [ih]
    simp only [List.append_assoc]
theorem rowT_sym {names : List ByteArray} (hag : again names = names.length) {s : Sy} (h : maySym names.length s = true) (ps : List Part) : rowT names ((symP names ps s).map itemP) = rowT names (ps.map itemP) ++ [s] := by
  obtain ⟨nm, lo, hi⟩ := s
  unfold maySym at h
  unfold symP
  simp only at h ⊢
  by_cases e : nm = -1
  · rw [if_pos e] at h
    simp only [Bool.and_eq_true, decide_eq_true_eq] at h
    rw [if_neg (by simpa using e)]
    by_cases e2 : lo = hi
    · rw [if_neg (by simpa using e2), rowT_add, byteOf_nat (by omega) (by omega)]
      subst e e2; rfl
    · rw [if_pos e2, List.map_append, rowT, List.flatMap_append]
      simp only [List.map_cons, List.map_nil, List.flatMap_cons, List.flatMap_nil, List.append_nil, symT_span]
      rw [byteOf_nat (by omega) (by omega), byteOf_nat (by omega) (by omega)]
      subst e; rfl
  · rw [if_neg e] at h
    simp only [isNum, Bool.and_eq_true, decide_eq_true_eq] at h
    rw [if_pos e, List.map_append, rowT, List.flatMap_append]
    simp only [List.map_cons, List.map_nil, List.flatMap_cons, List.flatMap_nil, List.append_nil, symT_name]
    have hk : nm.toNat < names.length := by omega
    have : numOf names (names.getD nm.toNat ⟨#[]⟩) = nm := by
      unfold numOf
      rw [place_at hag hk]
      show ((nm.toNat : Nat) : Int) = nm
      omega
    rw [this]
    obtain ⟨_, h2, h3⟩ := h
    subst h2 h3; rfl
theorem rowT_fold {names : List ByteArray} (hag : again names = names.length) : ∀ (l : List Sy) (ps : List Part), (∀ s, s ∈ l → maySym names.length s = true) → rowT names ((l.foldl (symP names) ps).map itemP) = rowT names (ps.map itemP) ++ l
  | [], ps, _ => by simp
  | s :: l, ps, h => by
    rw [List.foldl_cons, rowT_fold hag l _ (fun x hx => h x (List.mem_cons_of_mem _ hx)), rowT_sym hag (h s List.mem_cons_self), List.append_assoc]
    rfl
theorem rowT_parts {names : List ByteArray} (hag : again names = names.length) {l : List Sy} (h : mayRow names.length l = true) : rowT names ((partsT names l).map itemP) = l := by
  simp only [mayRow, Bool.and_eq_true, decide_eq_true_eq, List.all_eq_true] at h
  unfold partsT
  match l, h with
  | [], _ => simp [rowT, symT_text]
  | s :: l, h => 
    show rowT names (((s :: l).foldl (symP names) []).map itemP) = _
    rw [rowT_fold hag _ _ h.2]
    rfl
theorem parts_ok {g : Gr} (m : Mays g) {r : Ru} (hr : r ∈ g.rules) {c : Cn} (hc : c ∈ r.conj) : ConjOk g.names c := fun p hp s e => m.nm s ((good_parts ((m.ru r hr).2.2 c hc) p hp).1 s e)

/- What the declarations make. -/
theorem findS_none {l : List (ByteArray × It)} (stop : Unit → It → Bool) (h : ∀ x, x ∈ l → stop () x.2 = false) : findS stop (fun _ _ => ()) () l = none := by
  induction l with
  | nil => rfl
  | cons x l ih =>
    show (if stop () x.2 = true then some x else findS stop (fun _ _ => ()) () l) = none
    rw [if_neg (by rw [h x List.mem_cons_self]; simp), ih (fun y hy => h y (List.mem_cons_of_mem _ hy))]
theorem findL_none : ∀ (l : List (ByteArray × It)) (n : Nat), n + (l.map fun x => width x.2).sum ≤ 1024 → findS stopL stepL n l = none
  | [], _, _ => rfl
  | x :: l, n, h => by
    rw [List.map_cons, List.sum_cons] at h
    show (if stopL n x.2 = true then some x else findS stopL stepL (stepL n x.2) l) = none
    rw [if_neg (by unfold stopL; simp; omega), findL_none l _ (by unfold stepL; omega)]
theorem width_eq (names : List ByteArray) (p : Part) : width (itemP p) = (symT names (itemP p)).length := by
  match p with
  | .inl l =>
    show (ba l).size = _
    rw [symT_text, List.length_map, ba_size]
  | .inr (.inl (a, c)) => rfl
  | .inr (.inr s) => rfl
theorem widths_row (names : List ByteArray) : ∀ ps : List Part, (ps.map fun p => width (itemP p)).sum = (rowT names (ps.map itemP)).length
  | [] => rfl
  | p :: ps => by
    rw [List.map_cons, List.sum_cons, widths_row names ps, width_eq names p]
    simp [rowT]
theorem mem_flat {x : ByteArray × It} {g : Gr} (h : x ∈ flat (rawOf g).defs) : ∃ r c p, r ∈ g.rules ∧ c ∈ r.conj ∧ p ∈ partsT g.names c.seq ∧ x.2 = itemP p := by
  simp only [flat, rawOf, List.mem_flatMap, List.mem_map] at h
  obtain ⟨d, ⟨k, _, rfl⟩, h⟩ := h
  simp only [flatD, dfOf, List.mem_flatMap, List.mem_map] at h
  obtain ⟨a, ⟨r, hr, rfl⟩, h⟩ := h
  simp only [flatA, altOf, List.mem_flatMap, List.mem_map] at h
  obtain ⟨c, ⟨c', hc, rfl⟩, h⟩ := h
  simp only [flatC, cjOf, List.mem_map] at h
  obtain ⟨i, ⟨p, hp, rfl⟩, rfl⟩ := h
  exact ⟨r, c', p, (List.mem_filter.1 hr).1, hc, hp, rfl⟩
theorem sum_flatMap {α β : Type} (f : α → List β) (w : β → Nat) : ∀ l : List α, ((l.flatMap f).map w).sum = (l.map fun a => ((f a).map w).sum).sum
  | [] => rfl
  | a :: l => by rw [List.flatMap_cons, List.map_append, List.sum_append, sum_flatMap f w l, List.map_cons, List.sum_cons]
theorem map_sum_congr {α : Type} {f g : α → Nat} {l : List α} (h : ∀ a, a ∈ l → f a = g a) : (l.map f).sum = (l.map g).sum := by
  rw [List.map_congr_left h]
theorem rules_back {g : Gr} (m : Mays g) : (List.range g.names.length).flatMap (rulesOfT g.rules) = g.rules := by
  rw [range_rules g.rules (heads_sorted _ _ _ m.hd), List.filter_eq_self]
  intro r hr
  have := heads_in _ _ _ m.hd r hr
  simp only [decide_eq_true_eq]; exact this.2
theorem widths_all {g : Gr} (m : Mays g) : ((flat (rawOf g).defs).map fun x => width x.2).sum = (g.rules.map symsR).sum := by
  have hc : ∀ r, r ∈ g.rules → ∀ c, c ∈ r.conj → ∀ n, ((flatC n (cjOf g.names c)).map fun x => width x.2).sum = c.seq.length := fun r hr c hc n => by
    have h1 := rowT_parts m.ag ((m.ru r hr).2.2 c hc)
    have h2 := widths_row g.names (partsT g.names c.seq)
    rw [h1] at h2
    rw [← h2]
    simp only [flatC, cjOf, List.map_map]
    rfl
  have hr : ∀ r, r ∈ g.rules → ∀ n, ((flatA n (altOf g.names r)).map fun x => width x.2).sum = symsR r := fun r hr n => by
    unfold flatA altOf symsR
    rw [sum_flatMap, List.map_map]
    exact map_sum_congr (fun c hc' => hc r hr c hc' n)
  unfold flat
  rw [sum_flatMap]
  show (((List.range g.names.length).map (dfOf g.names g.rules)).map fun d => ((flatD d).map fun x => width x.2).sum).sum = _
  rw [List.map_map]
  have hd : ∀ k, ((flatD (dfOf g.names g.rules k)).map fun x => width x.2).sum = ((rulesOfT g.rules k).map symsR).sum := fun k => by
    unfold flatD dfOf
    rw [sum_flatMap, List.map_map]
    exact map_sum_congr (fun r hr' => hr r (List.mem_filter.1 hr').1 _)
  refine (map_sum_congr (g := fun k => ((rulesOfT g.rules k).map symsR).sum) (fun k _ => hd k)).trans ?_
  rw [← sum_flatMap, rules_back m]
theorem range_getD (l : List ByteArray) : (List.range l.length).map (fun k => l.getD k ⟨#[]⟩) = l := by
  apply List.ext_getElem?
  intro i
  rw [List.getElem?_map]
  by_cases h : i < l.length
  · rw [List.getElem?_range h, List.getElem?_eq_getElem h]
    show some (l.getD i ⟨#[]⟩) = _
    rw [List.getD, List.getElem?_eq_getElem h]; rfl
  · rw [List.getElem?_eq_none (by simp; omega), List.getElem?_eq_none (by omega)]; rfl
theorem names_back (g : Gr) : namesT (rawOf g).defs = g.names := by
  unfold namesT rawOf
  rw [List.map_map]
  exact range_getD g.names
theorem gram_back {g : Gr} (m : Mays g) : gramT (rawOf g) = g := by
  have hst : g.start.toNat < g.names.length := by have := m.st; omega
  have h1 : numOf g.names (startT (rawOf g)) = g.start := by
    show (((place g.names (g.names.getD g.start.toNat ⟨#[]⟩)).getD 0 : Nat) : Int) = _
    rw [place_at m.ag hst]
    show ((g.start.toNat : Nat) : Int) = _
    have := m.st; omega
  have h2 : rulesT g.names (rawOf g).defs = g.rules := by
    unfold rulesT
    show ((List.range g.names.length).map (dfOf g.names g.rules)).flatMap (rulesD g.names) = _
    rw [List.flatMap_map]
    conv => rhs; rw [← rules_back m]
    rw [List.flatMap_def, List.flatMap_def]
    congr 1
    apply List.map_congr_left
    intro k hk
    rw [List.mem_range] at hk
    show ((rulesOfT g.rules k).map (altOf g.names)).map (ruleT g.names (g.names.getD k ⟨#[]⟩)) = rulesOfT g.rules k
    rw [List.map_map]
    conv => rhs; rw [← List.map_id (rulesOfT g.rules k)]
    apply List.map_congr_left
    intro r hr
    obtain ⟨hr1, hr2⟩ := List.mem_filter.1 hr
    have hr3 : r.head = (k : Int) := by simpa using hr2
    show (⟨numOf g.names (g.names.getD k ⟨#[]⟩), (altOf g.names r).map (cnT g.names)⟩ : Ru) = r
    have e1 : numOf g.names (g.names.getD k ⟨#[]⟩) = r.head := by
      unfold numOf
      rw [place_at m.ag hk, hr3]; rfl
    have e2 : (altOf g.names r).map (cnT g.names) = r.conj := by
      unfold altOf
      rw [List.map_map]
      conv => rhs; rw [← List.map_id r.conj]
      apply List.map_congr_left
      intro c hc
      show (⟨c.neg, rowT g.names ((partsT g.names c.seq).map itemP)⟩ : Cn) = c
      rw [rowT_parts m.ag ((m.ru r hr1).2.2 c hc)]
    rw [e1, e2]
  unfold gramT
  rw [names_back, h1, h2]
theorem build_back {g : Gr} (h : mayG g = true) : buildT (rawOf g) = .ok g := by
  have m := mays h
  have hst : g.start.toNat < g.names.length := by have := m.st; omega
  unfold buildT
  rw [names_back, m.ag, if_neg (by omega), if_neg (by intro e; exact e rfl)]
  have hu : unknownT (rawOf g) g.names = none := by
    unfold unknownT
    have h1 : (rawOf g).starts.find? (fun s => !known g.names s) = none := by
      show [g.names.getD g.start.toNat ⟨#[]⟩].find? _ = none
      rw [List.find?_eq_none]
      intro s hs
      obtain rfl : s = g.names.getD g.start.toNat ⟨#[]⟩ := by simpa using hs
      rw [known_of_place (place_at m.ag hst _)]; simp
    rw [h1]
    show (findS (stopN g.names) _ () (flat (rawOf g).defs)).map _ = none
    rw [findS_none (stopN g.names) (fun x hx => ?_)]
    · rfl
    · obtain ⟨r, c, p, hr, hc, hp, e⟩ := mem_flat hx
      rw [e]
      match p, hp with
      | .inl l, _ => rfl
      | .inr (.inl (a, c)), _ => rfl
      | .inr (.inr s), hp =>
        have hs := (good_parts ((m.ru r hr).2.2 c hc) _ hp).1 s rfl
        obtain ⟨i, hi, rfl⟩ := List.getElem_of_mem hs
        have := place_at m.ag hi ⟨#[]⟩
        have this : place g.names g.names[i] = some i := by rwa [List.getD, List.getElem?_eq_getElem hi] at this
        show (decide ((0 : Int) = 0) && !known g.names g.names[i]) = false
        rw [known_of_place this]; rfl
  have hx : crossedT (rawOf g).defs = none := by
    unfold crossedT
    rw [findS_none stopR (fun x hx => ?_)]
    · rfl
    · obtain ⟨r, c, p, hr, hc, hp, e⟩ := mem_flat hx
      rw [e]
      match p, hp with
      | .inl l, _ => rfl
      | .inr (.inl (a, b)), hp =>
        have := (good_parts ((m.ru r hr).2.2 c hc) _ hp).2 a b rfl
        show (decide ((2 : Int) = 2) && decide ((b.toNat : Int) < (a.toNat : Int))) = false
        simp; omega
      | .inr (.inr s), hp => rfl
  have hl : tooLongT (rawOf g).defs = false := by
    unfold tooLongT
    rw [findL_none _ 0 (by rw [widths_all m]; have := m.sy; omega)]; rfl
  simp only [hu, hx, hl, gram_back m, h]
  rfl
end Go.Proofs.Ytkkmjgohjaedkaa
/- A grammar's text is short enough to be read again. No program in sight. -/
namespace Go.Proofs.Ytkkmjgohjaedkaa
set_option linter.unusedVariables false

theorem full_add (c : UInt8) : ∀ ps : List Part, (∀ p, p ∈ ps → p ≠ .inl []) → ∀ p, p ∈ addT ps c → p ≠ .inl []
  | [], _, p, hp => by
    obtain rfl : p = .inl [c] := by simpa [addT] using hp
    simp
  | [.inl l], _, p, hp => by
    obtain rfl : p = .inl (l ++ [c]) := by simpa [addT] using hp
    simp
  | [.inr x], h, p, hp => by
    have hp' : p = .inr x ∨ p = .inl [c] := by simpa [addT] using hp
    rcases hp' with rfl | rfl <;> simp
  | q :: r :: ps, h, p, hp => by
    have hp' : p ∈ q :: addT (r :: ps) c := by simpa only [addT] using hp
    rcases List.mem_cons.1 hp' with e | e
    · subst e; exact h _ List.mem_cons_self
    · exact full_add c (r :: ps) (fun x hx => h x (List.mem_cons_of_mem _ hx)) p e
theorem full_fold (names : List ByteArray) : ∀ (l : List Sy) (ps : List Part), (∀ p, p ∈ ps → p ≠ .inl []) → ∀ p, p ∈ l.foldl (symP names) ps → p ≠ .inl []
  | [], ps, h => h
  | s :: l, ps, h => full_fold names l _ (fun p hp => by
    unfold symP at hp
    split at hp
    · rcases List.mem_append.1 hp with e | e
      · exact h p e
      · obtain rfl : p = .inr (.inr (names.getD s.name.toNat ⟨#[]⟩)) := by simpa using e
        simp
    · split at hp
      · rcases List.mem_append.1 hp with e | e
        · exact h p e
        · obtain rfl : p = .inr (.inl (byteOf s.lo, byteOf s.hi)) := by simpa using e
          simp
      · exact full_add _ ps h p hp)
theorem joinN_sum (b : List UInt8) (t : Nat → List UInt8) : ∀ n, (joinN b t n).length ≤ ((List.range n).map fun i => (t i).length + b.length).sum
  | 0 => by simp [joinN]
  | n + 1 => by
    have ih := joinN_sum b t n
    have h3 : (if 0 < n then b else []).length ≤ b.length := by split <;> simp
    rw [List.range_succ, List.map_append, List.sum_append]
    simp only [joinN, List.length_append, List.map_cons, List.map_nil, List.sum_cons, List.sum_nil]
    omega
theorem range_sum {α : Type} (F : α → Nat) (d : α) (l : List α) : ((List.range l.length).map fun i => F (l.getD i d)).sum = (l.map F).sum := by
  have e : (List.range l.length).map (fun k => l.getD k d) = l := by
    apply List.ext_getElem?
    intro i
    rw [List.getElem?_map]
    by_cases h : i < l.length
    · rw [List.getElem?_range h, List.getElem?_eq_getElem h]
      show some (l.getD i d) = _
      rw [List.getD, List.getElem?_eq_getElem h]; rfl
    · rw [List.getElem?_eq_none (by simp; omega), List.getElem?_eq_none (by omega)]; rfl
  conv => rhs; rw [← e]
  rw [List.map_map]; rfl
theorem sum_le {α : Type} {f g : α → Nat} : ∀ {l : List α}, (∀ a, a ∈ l → f a ≤ g a) → (l.map f).sum ≤ (l.map g).sum
  | [], _ => Nat.le_refl _
  | a :: l, h => by
    have := sum_le (l := l) (fun x hx => h x (List.mem_cons_of_mem _ hx))
    have := h a List.mem_cons_self
    simp only [List.map_cons, List.sum_cons]; omega
theorem sum_lin {α : Type} (f : α → Nat) (a b : Nat) : ∀ l : List α, (l.map fun x => a * f x + b).sum = a * (l.map f).sum + b * l.length
  | [] => by simp
  | x :: l => by
    rw [List.map_cons, List.sum_cons, sum_lin f a b l, List.map_cons, List.sum_cons, List.length_cons, Nat.mul_add, Nat.mul_add]
    omega
theorem part_len {g : Gr} (m : Mays g) {p : Part} (hg : GoodP g.names p) (hf : p ≠ .inl []) : (partT p).length + 1 ≤ 33 * width (itemP p) := by
  match p, hg, hf with
  | .inl l, _, hf =>
    have h1 := quoT_len 34 l
    have h0 : l ≠ [] := fun e => hf (by rw [e])
    have h2 : 0 < l.length := List.length_pos_iff.2 h0
    show (quoT 34 l).length + 1 ≤ 33 * (ba l).size
    rw [ba_size]; omega
  | .inr (.inl (a, c)), _, _ =>
    have h1 := quoT_len 39 [a]
    have h2 := quoT_len 39 [c]
    show (quoT 39 [a] ++ [46, 46] ++ quoT 39 [c]).length + 1 ≤ 33 * 1
    simp only [List.length_append, List.length_cons, List.length_nil] at h1 h2 ⊢
    omega
  | .inr (.inr s), hg, _ =>
    have h := (nameMay_parts (m.nm s (hg.1 s rfl))).2.1
    show s.data.toList.length + 1 ≤ 33 * 1
    rw [Array.length_toList]
    have : s.data.size = s.size := rfl
    omega
theorem conj_len {g : Gr} (m : Mays g) {c : Cn} (h : mayRow g.names.length c.seq = true) : (conjT g.names c).length ≤ 33 * c.seq.length + 4 := by
  have hn : (if c.neg then ([126] : List UInt8) else []).length ≤ 1 := by split <;> simp
  have key : (joinN [32] (partAt (partsT g.names c.seq)) (partsT g.names c.seq).length).length ≤ 33 * c.seq.length + 3 := by
    match hs : c.seq with
    | [] => exact (by decide : (joinN [32] (partAt [.inl []]) 1).length ≤ 3)
    | s :: l =>
      rw [← hs]
      refine Nat.le_trans (joinN_sum _ _ _) ?_
      have e1 := range_sum (fun p => (partT p).length + ([32] : List UInt8).length) (.inl []) (partsT g.names c.seq)
      have hp : ∀ p, p ∈ partsT g.names c.seq → (partT p).length + ([32] : List UInt8).length ≤ 33 * width (itemP p) + 0 := fun p hp => by
        refine part_len m (good_parts h p hp) ?_
        have hp' : p ∈ (s :: l).foldl (symP g.names) [] := by rw [hs] at hp; exact hp
        exact full_fold g.names (s :: l) [] (fun p hp => by simp at hp) p hp'
      have e2 := sum_le hp
      rw [sum_lin, widths_row g.names, rowT_parts m.ag h] at e2
      unfold partAt
      rw [e1]; omega
  unfold conjT
  rw [List.length_append]; omega
theorem conjs_len {g : Gr} (m : Mays g) {r : Ru} (hr : r ∈ g.rules) : (conjsT g.names r.conj).length ≤ 33 * symsR r + 56 := by
  refine Nat.le_trans (joinN_sum _ _ _) ?_
  have e1 := range_sum (fun c => (conjT g.names c).length + ([32, 38, 32] : List UInt8).length) ⟨false, []⟩ r.conj
  unfold conjAt
  rw [e1]
  have e2 := sum_le (f := fun c => (conjT g.names c).length + ([32, 38, 32] : List UInt8).length) (g := fun c : Cn => 33 * c.seq.length + 7) (l := r.conj) (fun c hc => by
    have := conj_len m ((m.ru r hr).2.2 c hc)
    show _ + 3 ≤ _
    omega)
  rw [sum_lin] at e2
  have h8 := (m.ru r hr).2.1
  unfold symsR; omega
theorem alts_len {g : Gr} (m : Mays g) {l : List Ru} (hl : ∀ r, r ∈ l → r ∈ g.rules) : (altsT g.names l).length ≤ (l.map fun r => 33 * symsR r + 59).sum := by
  refine Nat.le_trans (joinN_sum _ _ _) ?_
  have e1 := range_sum (fun r : Ru => (conjsT g.names r.conj).length + ([32, 124, 32] : List UInt8).length) ⟨0, []⟩ l
  unfold ruleAt
  rw [e1]
  exact sum_le (fun r hr => by
    have := conjs_len m (hl r hr)
    show _ + 3 ≤ _
    omega)
theorem name_len {g : Gr} (m : Mays g) {k : Nat} (hk : k < g.names.length) : (g.names.getD k ⟨#[]⟩).data.toList.length ≤ 32 := by
  have h := (nameMay_parts (m.nm _ (getD_mem ⟨#[]⟩ hk))).2.1
  rw [Array.length_toList]; exact h
theorem defs_len {g : Gr} (m : Mays g) : ∀ k, k ≤ g.names.length → (defsT g.names g.rules k).length ≤ 37 * k + ((List.range k).map fun i => ((rulesOfT g.rules i).map fun r => 33 * symsR r + 59).sum).sum
  | 0, _ => by simp [defsT]
  | k + 1, hk => by
    have ih := defs_len m k (by omega)
    have h1 := alts_len m (l := rulesOfT g.rules k) (fun r hr => (List.mem_filter.1 hr).1)
    have h2 := name_len m (k := k) (by omega)
    rw [List.range_succ, List.map_append, List.sum_append]
    simp only [defsT, defT, List.length_append, List.length_cons, List.length_nil, List.map_cons, List.map_nil, List.sum_cons, List.sum_nil]
    omega
theorem show_len {g : Gr} (h : mayG g = true) : (showL g).length ≤ 65536 := by
  have m := mays h
  have h1 := defs_len m g.names.length (Nat.le_refl _)
  rw [← sum_flatMap, rules_back m, sum_lin] at h1
  have h2 := name_len m (k := g.start.toNat) (by have := m.st; omega)
  have h3 := m.n2
  have h4 := m.r2
  have h5 := m.sy
  simp only [showL, List.length_append, List.length_cons, List.length_nil]
  omega
theorem rules_ne {g : Gr} (m : Mays g) : ∀ k, k < g.names.length → rulesOfT g.rules k ≠ [] := fun k hk e => by
  obtain ⟨r, hr, hh⟩ := heads_all _ _ _ m.hd (k : Int) (by omega) (by omega)
  have : r ∈ rulesOfT g.rules k := List.mem_filter.2 ⟨hr, by simpa using hh⟩
  rw [e] at this; simp at this
/-- A grammar's text declares it. -/
theorem parse_back {g : Gr} (h : mayG g = true) : parseT (showT g) = .ok (rawOf g) := by
  have m := mays h
  have hz : (showT g).size ≤ 65536 := by
    show (ba (showL g)).size ≤ _
    rw [ba_size]; exact show_len h
  obtain ⟨toks, h1, h2⟩ := tells_show g (by have := m.st; omega) m.nm (fun r hr c hc => parts_ok m hr hc)
  obtain ⟨p, h3, h4, h5, h6⟩ := feed_show g (fun r hr e => by have := (m.ru r hr).1; rw [e] at this; simp at this) (rules_ne m)
  rw [← h2] at h3
  have h7 := feed_st toks pm0 p h3
  have h8 : lexT (showT g) = .ok toks := h1.out hz
  rw [parseT, if_neg (by omega), h8]
  show shutP (showT g).size (feed pm0 toks) = _
  rw [h7]
  unfold shutP
  simp only [h4, h5, h6, if_pos]
/-- Two grammars of one text are one. -/
theorem show_inj {g h : Gr} (hg : mayG g = true) (hh : mayG h = true) (e : showT g = showT h) : g = h := by
  have e1 := parse_back hg
  rw [e, parse_back hh] at e1
  injection e1 with e1
  have e2 := build_back hh
  rw [e1, build_back hg] at e2
  injection e2
end Go.Proofs.Ytkkmjgohjaedkaa
