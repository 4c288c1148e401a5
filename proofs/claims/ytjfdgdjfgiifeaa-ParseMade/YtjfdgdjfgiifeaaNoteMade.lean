/- A definition put together piece by piece. No program in sight. -/
import Derived.Test.YtjfdgdjfgiifeaaNoteRow
import Derived.Test.YtjfdgdjfgiifeaaLexQuo
namespace Go.Proofs.Ytjfdgdjfgiifeaa
set_option linter.unusedVariables false

def QQ : ByteArray := ⟨#[81]⟩
theorem told_mark (c : UInt8) (k : Nat) (h1 : (c.toNat : Int) ≠ 35) (h2 : ¬ ((c.toNat : Int) = 9 ∨ (c.toNat : Int) = 10 ∨ (c.toNat : Int) = 13 ∨ (c.toNat : Int) = 32)) (h : ∀ (b : Nat → Int) (n : Nat), b 0 = (c.toNat : Int) → tokF b n 0 = .ok (⟨k, 0, ⟨#[]⟩, 0, 0⟩, 1)) : Told ⟨#[c]⟩ [⟨k, 0, ⟨#[]⟩, 0, 0⟩] :=
  told_tok ⟨#[c]⟩ _ (Nat.succ_pos _) h1 h2 (fun b n hb _ => h b n (hb 0 (Nat.succ_pos _)))
theorem told_is : Told ⟨#[61]⟩ [⟨4, 0, ⟨#[]⟩, 0, 0⟩] := told_mark 61 4 (by decide) (by decide) (fun b n h => by unfold tokF; rw [h]; rfl)
theorem told_or : Told ⟨#[124]⟩ [⟨5, 0, ⟨#[]⟩, 0, 0⟩] := told_mark 124 5 (by decide) (by decide) (fun b n h => by unfold tokF; rw [h]; rfl)
theorem told_and : Told ⟨#[38]⟩ [⟨6, 0, ⟨#[]⟩, 0, 0⟩] := told_mark 38 6 (by decide) (by decide) (fun b n h => by unfold tokF; rw [h]; rfl)
theorem told_not : Told ⟨#[126]⟩ [⟨7, 0, ⟨#[]⟩, 0, 0⟩] := told_mark 126 7 (by decide) (by decide) (fun b n h => by unfold tokF; rw [h]; rfl)
theorem told_end : Told ⟨#[59]⟩ [⟨8, 0, ⟨#[]⟩, 0, 0⟩] := told_mark 59 8 (by decide) (by decide) (fun b n h => by unfold tokF; rw [h]; rfl)
theorem told_q : Told ⟨#[32, 81, 32]⟩ [⟨0, 1, QQ, 0, 0⟩] :=
  Told.join (s := ⟨#[32, 81]⟩) 32 (Or.inr (Or.inr (Or.inr rfl))) (Or.inr (by decide)) (by kernel_rfl)
theorem told_ab : Told ⟨#[34, 97, 98, 34]⟩ [⟨1, 0, ⟨#[97, 98]⟩, 0, 0⟩] := by
  refine told_tok _ _ (by decide) (by decide) (by decide) (fun b n hb hn => ?_)
  have hn' : 4 ≤ n := hn
  have b0 : b 0 = 34 := hb 0 (by decide)
  have b1 : b 1 = 97 := hb 1 (by decide)
  have b2 : b 2 = 98 := hb 2 (by decide)
  have b3 : b 3 = 34 := hb 3 (by decide)
  have s1 : signF b n 1 34 = some (97, 2) := by unfold signF; rw [if_neg (by omega), if_pos (by omega), b1]
  have s2 : signF b n 2 34 = some (98, 3) := by unfold signF; rw [if_neg (by omega), if_pos (by omega), b2]
  unfold tokF
  rw [b0, if_neg (by decide), if_pos rfl, textG, textF_eq b n _ _ (by omega), if_neg (by rw [b1]; omega), s1]
  show (match textF b n 2 ([] ++ [97]) with
    | none => Got.noText
    | some (l, to) => Got.tok ⟨1, 0, strOf l, 0, 0⟩ to) = _
  rw [textF_eq b n _ _ (by omega), if_neg (by rw [b2]; omega), s2]
  show (match textF b n 3 (([] ++ [97]) ++ [98]) with
    | none => Got.noText
    | some (l, to) => Got.tok ⟨1, 0, strOf l, 0, 0⟩ to) = _
  rw [textF_eq b n _ _ (by omega), if_pos ⟨by omega, b3⟩]
  rfl
theorem told_ac : Told ⟨#[39, 97, 39, 46, 46, 39, 99, 39]⟩ [⟨2, 0, ⟨#[]⟩, 97, 99⟩] := by
  refine told_tok _ _ (by decide) (by decide) (by decide) (fun b n hb hn => ?_)
  have hn' : 8 ≤ n := hn
  have b0 : b 0 = 39 := hb 0 (by decide)
  have b1 : b 1 = 97 := hb 1 (by decide)
  have b2 : b 2 = 39 := hb 2 (by decide)
  have b3 : b 3 = 46 := hb 3 (by decide)
  have b4 : b 4 = 46 := hb 4 (by decide)
  have b5 : b 5 = 39 := hb 5 (by decide)
  have b6 : b 6 = 99 := hb 6 (by decide)
  have b7 : b 7 = 39 := hb 7 (by decide)
  have s1 : signF b n 1 39 = some (97, 2) := by unfold signF; rw [if_neg (by omega), if_pos (by omega), b1]
  have s2 : signF b n 6 39 = some (99, 7) := by unfold signF; rw [if_neg (by omega), if_pos (by omega), b6]
  have e1 : half b n (0 + 1) = some (97, 3) := by
    unfold half
    rw [show 0 + 1 = 1 from rfl, s1]
    show (if n ≤ 2 ∨ b 2 ≠ 39 then none else some ((97 : Int), 3)) = _
    rw [if_neg (by rw [b2]; omega)]
  have e2 : half b n (5 + 1) = some (99, 8) := by
    unfold half
    rw [show 5 + 1 = 6 from rfl, s2]
    show (if n ≤ 7 ∨ b 7 ≠ 39 then none else some ((99 : Int), 8)) = _
    rw [if_neg (by rw [b7]; omega)]
  have hd : dots b n 3 := dots_mk ⟨by omega, b3, b4⟩
  have ho : oneF b n (3 + 2) = some (99, 8) := by
    rw [oneF_half, if_neg (by rw [b5]; omega), e2]
  unfold tokF
  rw [b0, if_neg (by decide), if_neg (by decide), if_pos rfl, rangeG, rangeF, e1]
  show (match (if dots b n 3 then match oneF b n (3 + 2) with
      | none => none
      | some (d, to2) => some ((97 : Int), d, to2)
    else some ((97 : Int), 97, 3)) with
    | none => Got.noText
    | some (c, d, to) => Got.tok ⟨2, 0, ⟨#[]⟩, c, d⟩ to) = _
  rw [if_pos hd, ho]
  rfl
def pieceT : Nat → ByteArray
  | 0 => ⟨#[32, 81, 32]⟩
  | 1 => ⟨#[34, 97, 98, 34]⟩
  | _ => ⟨#[39, 97, 39, 46, 46, 39, 99, 39]⟩
def pieceI : Nat → It
  | 0 => ⟨0, ⟨#[81]⟩, 0, 0⟩
  | 1 => ⟨1, ⟨#[97, 98]⟩, 0, 0⟩
  | _ => ⟨2, ⟨#[]⟩, 97, 99⟩
theorem piece_told (r : Nat) : ∃ a, Told (pieceT r) [⟨(pieceI r).kind, a, (pieceI r).text, (pieceI r).lo, (pieceI r).hi⟩] := by
  match r with
  | 0 => exact ⟨1, told_q⟩
  | 1 => exact ⟨0, told_ab⟩
  | _ + 2 => exact ⟨0, told_ac⟩
theorem pieceI_kind (r : Nat) : (pieceI r).kind ≤ 2 := by
  match r with
  | 0 | 1 => decide
  | _ + 2 => exact Nat.le_refl 2
/-- T is the beginning of a definition of Q; whatever stands behind it goes on from there. -/
def Made (T : ByteArray) (item : Bool) (alts : List (List Cj)) (alt : List Cj) (neg : Bool) (items : List It) : Prop :=
  ∃ l, Told T l ∧ feed pm0 l = .ok ⟨cond item 6 4, [QQ], [], QQ, QQ, alts, alt, neg, items⟩
theorem Made.nil : Made ⟨#[115, 116, 97, 114, 116, 32, 81, 32, 59, 32, 81, 61]⟩ false [] [] false [] := by
  have h1 : Told (⟨#[115, 116, 97, 114, 116, 32, 81, 32, 59]⟩ ++ ⟨#[32]⟩) [⟨3, 0, ⟨#[]⟩, 0, 0⟩, ⟨0, 6, QQ, 0, 0⟩, ⟨8, 8, ⟨#[]⟩, 0, 0⟩] := Told.join 32 (Or.inr (Or.inr (Or.inr rfl))) (Or.inr (by decide)) (by kernel_rfl)
  have h2 : Told ⟨#[81, 61]⟩ [⟨0, 0, QQ, 0, 0⟩, ⟨4, 1, ⟨#[]⟩, 0, 0⟩] := fun x hx => by
    have e : (⟨#[81, 61]⟩ : ByteArray) ++ x = ⟨#[81]⟩ ++ (⟨#[61]⟩ ++ x) := by rw [← ByteArray.append_assoc]; rfl
    have hz : (⟨#[81, 61]⟩ ++ x : ByteArray).size = x.size + 2 := by rw [ByteArray.size_append]; show 2 + x.size = _; omega
    have hx' : 2 + x.size ≤ 65536 := hx
    have E1 : lexT (⟨#[81, 61]⟩ ++ x) = lexK (PlainAid.bt (⟨#[81, 61]⟩ ++ x)) (x.size + 2) 0 := by rw [lexT, lexB, if_neg (by omega), hz]
    have E2 : lexT x = lexK (PlainAid.bt x) x.size 0 := by rw [lexT, lexB, if_neg (by omega)]
    have hs := lexK_sh (b := PlainAid.bt x) (b' := PlainAid.bt (⟨#[81, 61]⟩ ++ x)) (d := 2) (fun j => bt_right ⟨#[81, 61]⟩ x j) x.size 0
    have b0 : PlainAid.bt (⟨#[81, 61]⟩ ++ x) 0 = 81 := (bt_left _ _ _ (by decide)).trans rfl
    have b1 : PlainAid.bt (⟨#[81, 61]⟩ ++ x) 1 = 61 := (bt_left _ _ _ (by decide)).trans rfl
    rw [Nat.zero_add] at hs
    rw [E1, E2]
    generalize PlainAid.bt (⟨#[81, 61]⟩ ++ x) = b at *
    rw [lexK_eq b _ 0 (Nat.zero_le _), skp_stay (by omega) (by omega) (by omega), lexA, if_neg (by omega)]
    have hE : nameE b (x.size + 2) 0 = 1 := nameE_run b _ 1 (by omega) (by rw [b1]; rfl) 1 0 (by omega) (fun j _ hj => by rw [show j = 0 by omega, b0]; rfl)
    have hT : tokF b (x.size + 2) 0 = .ok (⟨0, 0, QQ, 0, 0⟩, 1) := by
      unfold tokF
      rw [if_pos (by rw [b0]; rfl), nameG, hE, if_neg (by omega)]
      have hc : cut b 0 1 = [81] := by simp [cut, b0]
      unfold nameT
      have hst : isStart [81] = false := by kernel_rfl
      have hq : strOf [81] = QQ := by kernel_rfl
      rw [hc, if_neg (by rw [hst]; simp), hq]
    rw [hT]
    show Res.cons _ (lexK b _ 1) = _
    rw [lexK_eq b _ 1 (by omega), skp_stay (by omega) (by omega) (by omega), lexA, if_neg (by omega)]
    have hT2 : tokF b (x.size + 2) 1 = .ok (⟨4, 1, ⟨#[]⟩, 0, 0⟩, 2) := by unfold tokF; rw [b1]; rfl
    rw [hT2]
    show Res.cons _ (Res.cons _ (lexK b _ 2)) = _
    rw [hs]
    cases lexK (PlainAid.bt x) x.size 0 <;> rfl
  exact ⟨_, h1.app h2, rfl⟩
section
variable {T : ByteArray} {item : Bool} {alts : List (List Cj)} {alt : List Cj} {neg : Bool} {items : List It}
theorem tItem_piece (p : Pm) (r a : Nat) : tItem p ⟨(pieceI r).kind, a, (pieceI r).text, (pieceI r).lo, (pieceI r).hi⟩ = some ⟨6, p.starts, p.defs, p.start, p.name, p.alts, p.alt, p.neg, p.items ++ [pieceI r]⟩ := by
  unfold tItem
  rw [if_pos (pieceI_kind r)]
theorem feed_one (p q : Pm) (t : Tok) (h : take p t = some q) : feed p [t] = .ok q := by
  show (match take p t with
    | none => Except.error t.pl
    | some q => feed q []) = _
  rw [h]; rfl
theorem Made.it (h : Made T item alts alt neg items) (r : Nat) : Made (T ++ pieceT r) true alts alt neg (items ++ [pieceI r]) := by
  obtain ⟨l, h1, h2⟩ := h
  obtain ⟨a, h3⟩ := piece_told r
  refine ⟨_, h1.app h3, ?_⟩
  rw [feed_app l _ pm0 _ h2]
  refine feed_one _ _ _ ?_
  have hk := pieceI_kind r
  cases item with
  | false =>
    show take4 _ _ = _
    unfold take4
    rw [if_neg (by show (pieceI r).kind ≠ 7; omega)]
    exact tItem_piece _ r _
  | true =>
    show take6 _ _ = _
    unfold take6
    rw [if_neg (by show (pieceI r).kind ≠ 6; omega), if_neg (by show (pieceI r).kind ≠ 5; omega), if_neg (by show (pieceI r).kind ≠ 8; omega)]
    exact tItem_piece _ r _
theorem Made.not (h : Made T false alts alt neg items) (r : Nat) : Made ((T ++ ⟨#[126]⟩) ++ pieceT r) true alts alt true (items ++ [pieceI r]) := by
  obtain ⟨l, h1, h2⟩ := h
  obtain ⟨a, h3⟩ := piece_told r
  refine ⟨_, (h1.app told_not).app h3, ?_⟩
  rw [feed_app _ _ pm0 _ ((feed_app l _ pm0 _ h2).trans rfl)]
  exact feed_one _ _ _ (tItem_piece _ r _)
theorem Made.and (h : Made T true alts alt neg items) : Made (T ++ ⟨#[38]⟩) false alts (alt ++ [⟨neg, items⟩]) false [] := by
  obtain ⟨l, h1, h2⟩ := h
  exact ⟨_, h1.app told_and, (feed_app l _ pm0 _ h2).trans rfl⟩
theorem Made.or (h : Made T true alts alt neg items) : Made (T ++ ⟨#[124]⟩) false (alts ++ [alt ++ [⟨neg, items⟩]]) [] false [] := by
  obtain ⟨l, h1, h2⟩ := h
  exact ⟨_, h1.app told_or, (feed_app l _ pm0 _ h2).trans rfl⟩
theorem Made.out (h : Made T true alts alt neg items) (hs : T.size ≤ 65000) : parseT (T ++ ⟨#[59]⟩) = .ok ⟨[QQ], [⟨QQ, alts ++ [alt ++ [⟨neg, items⟩]]⟩]⟩ := by
  obtain ⟨l, h1, h2⟩ := h
  have hz : (T ++ ⟨#[59]⟩ : ByteArray).size ≤ 65536 := by rw [ByteArray.size_append]; show T.size + 1 ≤ _; omega
  exact parseT_mk hz ((h1.app told_end).out hz) ((feed_app l _ pm0 _ h2).trans rfl) rfl
theorem Made.out2 (h : Made T false alts alt neg items) (hs : T.size ≤ 65000) : parseT ((T ++ ⟨#[81]⟩) ++ ⟨#[59]⟩) = .ok ⟨[QQ], [⟨QQ, alts ++ [alt ++ [⟨neg, items ++ [⟨0, ⟨#[81]⟩, 0, 0⟩]⟩]]⟩]⟩ := by
  obtain ⟨l, h1, h2⟩ := h
  have hz : ((T ++ ⟨#[81]⟩) ++ ⟨#[59]⟩ : ByteArray).size ≤ 65536 := by rw [ByteArray.size_append, ByteArray.size_append]; show T.size + 1 + 1 ≤ _; omega
  have hw := told_word ⟨#[81]⟩ (by decide) (by decide) (by decide) (by decide) (by decide)
  have h4 := h1.app hw
  rw [← ByteArray.append_assoc] at h4
  exact parseT_mk hz (h4.out hz) ((feed_app l _ pm0 _ h2).trans rfl) rfl
end
end Go.Proofs.Ytjfdgdjfgiifeaa
