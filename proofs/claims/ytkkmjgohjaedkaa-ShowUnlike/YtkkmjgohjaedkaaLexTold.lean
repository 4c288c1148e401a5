/- Texts put together of pieces, each with its tokens. No program in sight. -/
import Derived.Test.YtkkmjgohjaedkaaLexJoin
import Derived.KernelRfl
namespace Go.Proofs.Ytkkmjgohjaedkaa

/-- s has the tokens l, and whatever stands behind it has its own. -/
def Told (s : ByteArray) (l : List Tok) : Prop := ∀ x : ByteArray, s.size + x.size ≤ 65536 → lexT (s ++ x) = Res.pre l (Res.sh s.size (lexT x))
theorem Told.nil : Told ⟨#[]⟩ [] := fun x _ => by
  rw [show (⟨#[]⟩ : ByteArray) ++ x = x from ByteArray.empty_append, Res.pre_nil]; exact (Res.sh_zero _).symm
theorem Told.app {s p : ByteArray} {l m : List Tok} (hs : Told s l) (hp : Told p m) : Told (s ++ p) (l ++ m.map (Tok.sh s.size)) := fun x hx => by
  rw [ByteArray.size_append] at hx
  rw [ByteArray.append_assoc, hs (p ++ x) (by rw [ByteArray.size_append]; omega), hp x (by omega), Res.sh_pre, Res.pre_pre, Res.sh_sh, ByteArray.size_append, Nat.add_comm p.size]
theorem Told.join {s : ByteArray} {l : List Tok} (c : UInt8) (hc : blankI (c.toNat : Int)) (hm : c = 10 ∨ ∀ j, j < s.size → PlainAid.bt s j ≠ 35) (h : lexT s = .ok l) : Told (s ++ ⟨#[c]⟩) l := fun x hx => by
  have e : (s ++ ⟨#[c]⟩ : ByteArray).size = s.size + 1 := by rw [ByteArray.size_append]; rfl
  rw [e] at hx ⊢
  exact lex_join s x c hc hm l h hx
theorem lexT_none : lexT ⟨#[]⟩ = .ok [] := by kernel_rfl
theorem Told.out {s : ByteArray} {l : List Tok} (h : Told s l) (hs : s.size ≤ 65536) : lexT s = .ok l := by
  have := h ⟨#[]⟩ (by show s.size + 0 ≤ _; omega)
  rw [show s ++ (⟨#[]⟩ : ByteArray) = s from ByteArray.append_empty, lexT_none] at this
  rw [this]; simp [Res.sh, Res.pre]

def pcT : Nat → ByteArray
  | 0 => ⟨#[97, 98]⟩
  | 1 => ⟨#[34, 120, 92, 92, 121, 34]⟩
  | 2 => ⟨#[39, 97, 39, 46, 46, 39, 92, 120, 55, 102, 39]⟩
  | 3 => ⟨#[115, 116, 97, 114, 116]⟩
  | 4 => ⟨#[61]⟩
  | 5 => ⟨#[124]⟩
  | 6 => ⟨#[38]⟩
  | 7 => ⟨#[126]⟩
  | _ => ⟨#[59]⟩
def pcK : Nat → Tok
  | 0 => ⟨0, 0, ⟨#[97, 98]⟩, 0, 0⟩
  | 1 => ⟨1, 0, ⟨#[120, 92, 121]⟩, 0, 0⟩
  | 2 => ⟨2, 0, ⟨#[]⟩, 97, 127⟩
  | 3 => ⟨3, 0, ⟨#[]⟩, 0, 0⟩
  | 4 => ⟨4, 0, ⟨#[]⟩, 0, 0⟩
  | 5 => ⟨5, 0, ⟨#[]⟩, 0, 0⟩
  | 6 => ⟨6, 0, ⟨#[]⟩, 0, 0⟩
  | 7 => ⟨7, 0, ⟨#[]⟩, 0, 0⟩
  | _ => ⟨8, 0, ⟨#[]⟩, 0, 0⟩
def spT : Nat → ByteArray
  | 0 => ⟨#[32]⟩
  | 1 => ⟨#[10]⟩
  | _ => ⟨#[35, 10]⟩
theorem pc_lex : ∀ k, lexT (pcT k) = .ok [pcK k]
  | 0 => by kernel_rfl
  | 1 => by kernel_rfl
  | 2 => by kernel_rfl
  | 3 => by kernel_rfl
  | 4 => by kernel_rfl
  | 5 => by kernel_rfl
  | 6 => by kernel_rfl
  | 7 => by kernel_rfl
  | _ + 8 => by kernel_rfl
theorem pc_lex2 : ∀ k, lexT (pcT k ++ ⟨#[35]⟩) = .ok [pcK k]
  | 0 => by kernel_rfl
  | 1 => by kernel_rfl
  | 2 => by kernel_rfl
  | 3 => by kernel_rfl
  | 4 => by kernel_rfl
  | 5 => by kernel_rfl
  | 6 => by kernel_rfl
  | 7 => by kernel_rfl
  | _ + 8 => by kernel_rfl
theorem pc_size (k : Nat) : (pcT k).size ≤ 11 := by
  match k with
  | 0 | 1 | 2 | 3 | 4 | 5 | 6 | 7 => decide
  | _ + 8 => exact (by decide : (⟨#[59]⟩ : ByteArray).size ≤ 11)
theorem pc_hash (k : Nat) : ∀ j, j < (pcT k).size → PlainAid.bt (pcT k) j ≠ 35 := by
  have h : ∀ k : Fin 9, ∀ j : Fin 11, PlainAid.bt (pcT k.val) j.val ≠ 35 := by decide
  intro j hj
  have hs := pc_size k
  by_cases hk : k < 9
  · exact h ⟨k, hk⟩ ⟨j, by omega⟩
  · have e : pcT k = pcT 8 := by
      match k, hk with
      | k + 9, _ => rfl
      | 0, h | 1, h | 2, h | 3, h | 4, h | 5, h | 6, h | 7, h | 8, h => exact absurd (by omega) h
    rw [e]
    exact h ⟨8, by omega⟩ ⟨j, by omega⟩
theorem pc_told (k r : Nat) : Told (pcT k ++ spT r) [pcK k] := by
  match r with
  | 0 => exact Told.join 32 (Or.inr (Or.inr (Or.inr rfl))) (Or.inr (pc_hash k)) (pc_lex k)
  | 1 => exact Told.join 10 (Or.inr (Or.inl rfl)) (Or.inl rfl) (pc_lex k)
  | r + 2 =>
    have h := Told.join 10 (Or.inr (Or.inl rfl)) (Or.inl rfl) (pc_lex2 k)
    rw [ByteArray.append_assoc] at h
    exact h
theorem sp_size (r : Nat) : (spT r).size ≤ 2 := by
  match r with
  | 0 | 1 => decide
  | _ + 2 => exact (by decide : (⟨#[35, 10]⟩ : ByteArray).size ≤ 2)
theorem pcK_sh (k d : Nat) : (pcK k).sh d = ⟨(pcK k).kind, d, (pcK k).text, (pcK k).lo, (pcK k).hi⟩ := by
  unfold Tok.sh
  have : (pcK k).pl = 0 := by
    match k with
    | 0 | 1 | 2 | 3 | 4 | 5 | 6 | 7 => rfl
    | _ + 8 => rfl
  rw [this, Nat.zero_add]
end Go.Proofs.Ytkkmjgohjaedkaa
