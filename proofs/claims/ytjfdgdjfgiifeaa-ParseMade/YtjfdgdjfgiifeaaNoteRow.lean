/- Texts of starts and definitions, put together piece by piece. No program in sight. -/
import Derived.Test.YtjfdgdjfgiifeaaNoteCut2
import Derived.Test.YtjfdgdjfgiifeaaLexTold
import Derived.Test.YtjfdgdjfgiifeaaLexWord
namespace Go.Proofs.Ytjfdgdjfgiifeaa

set_option maxHeartbeats 2000000 in
/-- A name and a mark, whatever stands behind. -/
theorem told_word (u : ByteArray) (h0 : 0 < u.size) (hl : letB (PlainAid.bt u 0) = true) (hs : PlainAid.bt u 0 ≠ 115) (hall : ∀ j, j < u.size → nmB (PlainAid.bt u j) = true) (hz : u.size ≤ 32) :
    Told (u ++ ⟨#[59]⟩) [⟨0, 0, u, 0, 0⟩, ⟨8, u.size, ⟨#[]⟩, 0, 0⟩] := fun x hx => by
  have hsz : (u ++ ⟨#[59]⟩ : ByteArray).size = u.size + 1 := by rw [ByteArray.size_append]; rfl
  have hn : ((u ++ ⟨#[59]⟩) ++ x).size = x.size + (u.size + 1) := by rw [ByteArray.size_append, hsz]; omega
  have hb : ∀ j, j < u.size → PlainAid.bt ((u ++ ⟨#[59]⟩) ++ x) j = PlainAid.bt u j := fun j hj => by rw [bt_left _ _ _ (by omega), bt_left _ _ _ hj]
  have he : PlainAid.bt ((u ++ ⟨#[59]⟩) ++ x) u.size = 59 := by
    rw [bt_left _ _ _ (by omega)]
    have := bt_right u ⟨#[59]⟩ 0
    rw [Nat.zero_add] at this
    rw [this]; rfl
  have hB := fun j => (⟨PlainAid.bt_nonneg ((u ++ ⟨#[59]⟩) ++ x) j, PlainAid.bt_le ((u ++ ⟨#[59]⟩) ++ x) j⟩ : 0 ≤ PlainAid.bt ((u ++ ⟨#[59]⟩) ++ x) j ∧ PlainAid.bt ((u ++ ⟨#[59]⟩) ++ x) j ≤ 255)
  have hw : strOf (cut (PlainAid.bt ((u ++ ⟨#[59]⟩) ++ x)) 0 u.size) = u := by
    rw [ByteArray.append_assoc]; exact strOf_whole u _
  have E : lexT ((u ++ ⟨#[59]⟩) ++ x) = lexK (PlainAid.bt ((u ++ ⟨#[59]⟩) ++ x)) (x.size + (u.size + 1)) 0 := by
    rw [lexT, lexB, if_neg (by omega), hn]
  have E2 : lexT x = lexK (PlainAid.bt x) x.size 0 := by rw [lexT, lexB, if_neg (by omega)]
  have hsh := lexK_sh (b := PlainAid.bt x) (b' := PlainAid.bt ((u ++ ⟨#[59]⟩) ++ x)) (d := u.size + 1) (fun j => by have := bt_right (u ++ ⟨#[59]⟩) x j; rw [hsz] at this; exact this) x.size 0
  rw [Nat.zero_add] at hsh
  rw [E, E2, hsz]
  generalize PlainAid.bt ((u ++ ⟨#[59]⟩) ++ x) = b at *
  have hl0 : letB (b 0) = true := by rw [hb 0 h0]; exact hl
  obtain ⟨n1, n2⟩ := nmB_let hl0
  rw [lexK_eq b _ 0 (Nat.zero_le _), skp_stay (by omega) n1 n2, lexA, if_neg (by omega)]
  have hE : nameE b (x.size + (u.size + 1)) 0 = u.size := nameE_run b _ u.size (by omega) (by rw [he]; rfl) u.size 0 (by omega) (fun j _ hj => by rw [hb j hj]; exact hall j hj)
  have hT : tokF b (x.size + (u.size + 1)) 0 = .ok (⟨0, 0, u, 0, 0⟩, u.size) := by
    unfold tokF
    rw [if_pos hl0, nameG, hE, if_neg (by omega)]
    have hn : isStart (cut b 0 u.size) = false := by
      cases hst : isStart (cut b 0 u.size) with
      | false => rfl
      | true =>
        rw [cut_cons b 0 _ h0] at hst
        have := start_head _ _ (hB 0) hst
        rw [hb 0 h0] at this
        exact absurd this hs
    unfold nameT
    rw [if_neg (by rw [hn]; simp), hw]
  rw [hT]
  show Res.cons _ (lexK b _ u.size) = _
  rw [lexK_eq b _ u.size (by omega), skp_stay (by omega) (by omega) (by omega), lexA, if_neg (by omega)]
  have hT2 : tokF b (x.size + (u.size + 1)) u.size = .ok (⟨8, u.size, ⟨#[]⟩, 0, 0⟩, u.size + 1) := by
    unfold tokF
    rw [he]
    rfl
  rw [hT2]
  show Res.cons _ (Res.cons _ (lexK b _ (u.size + 1))) = _
  rw [hsh]
  cases lexK (PlainAid.bt x) x.size 0 <;> rfl

def sn : Nat → ByteArray
  | 0 => ⟨#[97]⟩
  | 1 => ⟨#[66]⟩
  | _ => ⟨#[95, 48]⟩
def snArr : Array Value := #[.string ⟨#[97]⟩, .string ⟨#[66]⟩, .string ⟨#[95, 48]⟩]
theorem snArr_at (k : Nat) (hk : k < 3) : snArr[k]? = some (.string (sn k)) := by
  match k, hk with
  | 0, _ => rfl
  | 1, _ => rfl
  | 2, _ => rfl
  | k + 3, h => exact absurd h (by omega)
theorem sn_size (m : Nat) : (sn m).size ≤ 2 := by
  match m with
  | 0 | 1 => decide
  | _ + 2 => exact (by decide : (⟨#[95, 48]⟩ : ByteArray).size ≤ 2)
theorem sn_word (m : Nat) : Told (sn m ++ ⟨#[59]⟩) [⟨0, 0, sn m, 0, 0⟩, ⟨8, (sn m).size, ⟨#[]⟩, 0, 0⟩] := by
  match m with
  | 0 => exact told_word ⟨#[97]⟩ (by decide) (by decide) (by decide) (by decide) (by decide)
  | 1 => exact told_word ⟨#[66]⟩ (by decide) (by decide) (by decide) (by decide) (by decide)
  | _ + 2 => exact told_word ⟨#[95, 48]⟩ (by decide) (by decide) (by decide) (by decide) (by decide)
theorem lex_start : lexT ⟨#[115, 116, 97, 114, 116]⟩ = .ok [⟨3, 0, ⟨#[]⟩, 0, 0⟩] := by kernel_rfl
/-- A start. -/
theorem start_told (m : Nat) : ∃ a b c, Told ((⟨#[115, 116, 97, 114, 116, 32]⟩ ++ sn m) ++ ⟨#[59]⟩) [⟨3, a, ⟨#[]⟩, 0, 0⟩, ⟨0, b, sn m, 0, 0⟩, ⟨8, c, ⟨#[]⟩, 0, 0⟩] := by
  have h1 : Told (⟨#[115, 116, 97, 114, 116]⟩ ++ ⟨#[32]⟩) [⟨3, 0, ⟨#[]⟩, 0, 0⟩] := Told.join 32 (Or.inr (Or.inr (Or.inr rfl))) (Or.inr (by decide)) lex_start
  have h2 := h1.app (sn_word m)
  rw [← ByteArray.append_assoc] at h2
  exact ⟨_, _, _, h2⟩
theorem def_lex : ∀ m, ∃ a b c d, lexT (sn m ++ ⟨#[61, 34, 34, 59]⟩) = .ok [⟨0, a, sn m, 0, 0⟩, ⟨4, b, ⟨#[]⟩, 0, 0⟩, ⟨1, c, ⟨#[]⟩, 0, 0⟩, ⟨8, d, ⟨#[]⟩, 0, 0⟩]
  | 0 => ⟨0, 1, 2, 4, by kernel_rfl⟩
  | 1 => ⟨0, 1, 2, 4, by kernel_rfl⟩
  | _ + 2 => ⟨0, 2, 3, 5, by kernel_rfl⟩
/-- A definition of the empty text. -/
theorem def_told (m : Nat) : ∃ a b c d, Told (sn m ++ ⟨#[61, 34, 34, 59, 10]⟩) [⟨0, a, sn m, 0, 0⟩, ⟨4, b, ⟨#[]⟩, 0, 0⟩, ⟨1, c, ⟨#[]⟩, 0, 0⟩, ⟨8, d, ⟨#[]⟩, 0, 0⟩] := by
  obtain ⟨a, b, c, d, h⟩ := def_lex m
  have h1 := Told.join 10 (Or.inr (Or.inl rfl)) (Or.inl rfl) h
  rw [ByteArray.append_assoc] at h1
  exact ⟨a, b, c, d, h1⟩
def emptyAlts : List (List Cj) := [[⟨false, [⟨1, ⟨#[]⟩, 0, 0⟩]⟩]]
/-- s declares starts and defs, and whatever stands behind it goes on from there. -/
def Declares (s : ByteArray) (starts : List ByteArray) (defs : List Df) : Prop := ∃ l start name, Told s l ∧ feed pm0 l = .ok ⟨0, starts, defs, start, name, [], [], false, []⟩
theorem Declares.nil : Declares ⟨#[]⟩ [] [] := ⟨[], _, _, Told.nil, rfl⟩
theorem Declares.start {s : ByteArray} {starts : List ByteArray} {defs : List Df} (h : Declares s starts defs) (m : Nat) : Declares (((s ++ ⟨#[115, 116, 97, 114, 116, 32]⟩) ++ sn m) ++ ⟨#[59]⟩) (starts ++ [sn m]) defs := by
  obtain ⟨l, start, name, h1, h2⟩ := h
  obtain ⟨a, b, c, h3⟩ := start_told m
  have h4 := h1.app h3
  rw [← ByteArray.append_assoc, ← ByteArray.append_assoc] at h4
  refine ⟨_, sn m, name, h4, ?_⟩
  rw [feed_app l _ pm0 _ h2]
  rfl
theorem Declares.def {s : ByteArray} {starts : List ByteArray} {defs : List Df} (h : Declares s starts defs) (m : Nat) : Declares ((s ++ sn m) ++ ⟨#[61, 34, 34, 59, 10]⟩) starts (defs ++ [⟨sn m, emptyAlts⟩]) := by
  obtain ⟨l, start, name, h1, h2⟩ := h
  obtain ⟨a, b, c, d, h3⟩ := def_told m
  have h4 := h1.app h3
  rw [← ByteArray.append_assoc] at h4
  refine ⟨_, start, ⟨#[]⟩, h4, ?_⟩
  rw [feed_app l _ pm0 _ h2]
  rfl
theorem Declares.out {s : ByteArray} {starts : List ByteArray} {defs : List Df} (h : Declares s starts defs) (hs : s.size ≤ 65536) : parseT s = .ok ⟨starts, defs⟩ := by
  obtain ⟨l, start, name, h1, h2⟩ := h
  exact parseT_mk hs (h1.out hs) h2 rfl
end Go.Proofs.Ytjfdgdjfgiifeaa
