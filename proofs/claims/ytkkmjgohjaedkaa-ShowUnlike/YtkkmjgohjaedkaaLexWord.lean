/- A name alone, with a mark behind it. No program in sight. -/
import Derived.Test.YtkkmjgohjaedkaaLexJoin
import Derived.Test.YtkkmjgohjaedkaaLexPlac
import Derived.Test.YtkkmjgohjaedkaaLexTold
namespace Go.Proofs.Ytkkmjgohjaedkaa

def nmB (c : Int) : Bool := letB c || digB c
theorem nameE_run (b : Nat → Int) (n e : Nat) (he : e < n) (hb : nmB (b e) = false) : ∀ m k, e = k + m → (∀ j, k ≤ j → j < e → nmB (b j) = true) → nameE b n k = e
  | 0, k, h, _ => by
    obtain rfl : e = k := by omega
    exact nameE_out b n e he hb
  | m + 1, k, h, hj => by
    rw [nameE_in b n k (by omega) (hj k (Nat.le_refl _) (by omega))]
    exact nameE_run b n e he hb m (k + 1) (by omega) (fun j h1 h2 => hj j (by omega) h2)
theorem strOf_whole (s x : ByteArray) : strOf (cut (PlainAid.bt (s ++ x)) 0 s.size) = s := by
  apply ByteArray.ext
  apply Array.ext
  · simp [strOf, cut]
  · intro i h1 h2
    have hi : i < s.size := h2
    simp only [strOf, cut, List.getElem_toArray, List.getElem_map, List.getElem_range]
    rw [Nat.zero_add, bt_left s x i hi]
    unfold PlainAid.bt
    rw [dif_pos hi]
    simp
    rfl
theorem nmB_let {c : Int} (h : letB c = true) : c ≠ 35 ∧ ¬ (c = 9 ∨ c = 10 ∨ c = 13 ∨ c = 32) := by
  unfold letB at h
  simp only [Bool.or_eq_true, Bool.and_eq_true, decide_eq_true_eq] at h
  omega
theorem skp_stay {b : Nat → Int} {n k : Nat} (h : k < n) (h1 : b k ≠ 35) (h2 : ¬ (b k = 9 ∨ b k = 10 ∨ b k = 13 ∨ b k = 32)) : skp b n false k = k := by
  rw [skp_false b n k h, if_neg h1, if_neg h2]
/-- A name and a mark. -/
theorem word_lex (u : ByteArray) (h0 : 0 < u.size) (hl : letB (PlainAid.bt u 0) = true) (hs : PlainAid.bt u 0 ≠ 115) (hall : ∀ j, j < u.size → nmB (PlainAid.bt u j) = true) (hz : u.size ≤ 65000) :
    lexT (u ++ ⟨#[59]⟩) = if 32 < u.size then .error (0, 201) else .ok [⟨0, 0, u, 0, 0⟩, ⟨8, u.size, ⟨#[]⟩, 0, 0⟩] := by
  have hsz : (u ++ ⟨#[59]⟩ : ByteArray).size = u.size + 1 := by rw [ByteArray.size_append]; rfl
  have hb : ∀ j, j < u.size → PlainAid.bt (u ++ ⟨#[59]⟩) j = PlainAid.bt u j := fun j hj => bt_left _ _ _ hj
  have he : PlainAid.bt (u ++ ⟨#[59]⟩) u.size = 59 := by
    have := bt_right u ⟨#[59]⟩ 0
    rw [Nat.zero_add] at this
    rw [this]; rfl
  have hB := fun j => (⟨PlainAid.bt_nonneg (u ++ ⟨#[59]⟩) j, PlainAid.bt_le (u ++ ⟨#[59]⟩) j⟩ : 0 ≤ PlainAid.bt (u ++ ⟨#[59]⟩) j ∧ PlainAid.bt (u ++ ⟨#[59]⟩) j ≤ 255)
  have hw := strOf_whole u ⟨#[59]⟩
  have E : lexT (u ++ ⟨#[59]⟩) = lexK (PlainAid.bt (u ++ ⟨#[59]⟩)) (u.size + 1) 0 := by
    rw [lexT, lexB, if_neg (by omega), hsz]
  rw [E]
  generalize PlainAid.bt (u ++ ⟨#[59]⟩) = b at *
  have hl0 : letB (b 0) = true := by rw [hb 0 h0]; exact hl
  obtain ⟨n1, n2⟩ := nmB_let hl0
  rw [lexK_eq b _ 0 (Nat.zero_le _), skp_stay (by omega) n1 n2, lexA, if_neg (by omega)]
  have hE : nameE b (u.size + 1) 0 = u.size := nameE_run b (u.size + 1) u.size (by omega) (by rw [he]; rfl) u.size 0 (by omega) (fun j _ hj => by rw [hb j hj]; exact hall j hj)
  have hT : tokF b (u.size + 1) 0 = if 32 < u.size then .error true else .ok (⟨0, 0, u, 0, 0⟩, u.size) := by
    unfold tokF
    rw [if_pos hl0, nameG, hE]
    by_cases h32 : 32 < u.size
    · rw [if_pos (by omega), if_pos h32]
    · rw [if_neg (by omega), if_neg h32]
      have hn : isStart (cut b 0 u.size) = false := by
        cases hst : isStart (cut b 0 u.size) with
        | false => rfl
        | true =>
          rw [cut_cons b 0 _ h0] at hst
          have := start_head _ _ (hB 0) hst
          rw [hb 0 h0] at this
          exact absurd this hs
      unfold nameT
      rw [if_neg (by rw [hn]; simp), hw]
  rw [hT]
  by_cases h32 : 32 < u.size
  · rw [if_pos h32, if_pos h32]
  · rw [if_neg h32, if_neg h32]
    show Res.cons _ (lexK b (u.size + 1) u.size) = _
    rw [lexK_eq b _ _ (by omega), skp_stay (by omega) (by omega) (by omega), lexA, if_neg (by omega)]
    have hT2 : tokF b (u.size + 1) u.size = .ok (⟨8, u.size, ⟨#[]⟩, 0, 0⟩, u.size + 1) := by
      unfold tokF
      rw [he]
      rfl
    rw [hT2]
    show Res.cons _ (Res.cons _ (lexK b (u.size + 1) (u.size + 1))) = _
    rw [lexK_eq b _ _ (Nat.le_refl _), skp_end b _ _ _ (Nat.le_refl _), lexA, if_pos (Nat.le_refl _)]
    rfl

def sx : Nat → Int
  | 0 => 97
  | 1 => 90
  | 2 => 95
  | 3 => 113
  | 4 => 48
  | _ => 57
def nm (c : Nat) : Nat → ByteArray
  | 0 => ⟨#[]⟩
  | j + 1 => nm c j ++ strOf [sx ((j + c) % 6)]
theorem nm_size (c : Nat) : ∀ j, (nm c j).size = j
  | 0 => rfl
  | j + 1 => by
    show (nm c j ++ _).size = _
    rw [ByteArray.size_append, nm_size c j]; rfl
theorem sx_nm (q : Nat) : nmB (sx q) = true ∧ 0 ≤ sx q ∧ sx q ≤ 255 := by
  match q with
  | 0 | 1 | 2 | 3 | 4 => exact ⟨rfl, by decide, by decide⟩
  | _ + 5 => exact ⟨rfl, (by decide : (0 : Int) ≤ 57), (by decide : (57 : Int) ≤ 255)⟩
theorem nm_all (c : Nat) : ∀ k j, j < k → nmB (PlainAid.bt (nm c k) j) = true
  | 0, j, h => by omega
  | k + 1, j, h => by
    show nmB (PlainAid.bt (nm c k ++ _) j) = true
    by_cases e : j < k
    · rw [bt_left _ _ _ (by rw [nm_size]; exact e)]; exact nm_all c k j e
    · obtain rfl : j = k := by omega
      have h1 := bt_right (nm c j) (strOf [sx ((j + c) % 6)]) 0
      rw [Nat.zero_add, nm_size] at h1
      have hx := sx_nm ((j + c) % 6)
      rw [h1, (strOf_head _ [] hx.2).2]
      exact hx.1
def nmF (c k : Nat) : ByteArray := ⟨#[110]⟩ ++ (nm c k).extract 1 (nm c k).size
theorem nmF_size (c k : Nat) (hk : 1 ≤ k) : (nmF c k).size = k := by
  unfold nmF
  rw [ByteArray.size_append, ByteArray.size_extract, nm_size]
  show 1 + (min k k - 1) = k
  omega
theorem nmF_bt0 (c k : Nat) : PlainAid.bt (nmF c k) 0 = 110 := by
  unfold nmF
  rw [bt_left _ _ _ (by decide)]; rfl
theorem nmF_all (c k : Nat) (hk : 1 ≤ k) (j : Nat) (hj : j < k) : nmB (PlainAid.bt (nmF c k) j) = true := by
  match j, hj with
  | 0, _ => rw [nmF_bt0]; rfl
  | j + 1, hj =>
    unfold nmF
    have h := bt_right ⟨#[110]⟩ ((nm c k).extract 1 (nm c k).size) j
    have h' : PlainAid.bt (⟨#[110]⟩ ++ (nm c k).extract 1 (nm c k).size) (j + 1) = PlainAid.bt ((nm c k).extract 1 (nm c k).size) j := h
    rw [h']
    have hx : PlainAid.bt ((nm c k).extract 1 (nm c k).size) j = PlainAid.bt (nm c k) (j + 1) := by
      unfold PlainAid.bt
      rw [dif_pos (by rw [ByteArray.size_extract, nm_size]; omega), dif_pos (by rw [nm_size]; omega)]
      congr 2
      rw [ByteArray.getElem_extract]
      congr 1; omega
    rw [hx]
    exact nm_all c k (j + 1) hj
theorem names_lex (c k : Nat) (hk : 1 ≤ k) (hk2 : k ≤ 64) : lexT ((⟨#[32]⟩ ++ nmF c k) ++ ⟨#[59]⟩) = if 32 < k then .error (1, 201) else .ok [⟨0, 1, nmF c k, 0, 0⟩, ⟨8, k + 1, ⟨#[]⟩, 0, 0⟩] := by
  have hs := nmF_size c k hk
  have h := word_lex (nmF c k) (by omega) (by rw [nmF_bt0]; rfl) (by rw [nmF_bt0]; decide) (fun j hj => nmF_all c k hk j (by omega)) (by omega)
  have hj := lex_join ⟨#[]⟩ (nmF c k ++ ⟨#[59]⟩) 32 (Or.inr (Or.inr (Or.inr rfl))) (Or.inr fun j hj => absurd hj (Nat.not_lt_zero _)) [] lexT_none (by rw [ByteArray.size_append, hs]; show 0 + 1 + (k + 1) ≤ _; omega)
  rw [show (⟨#[]⟩ : ByteArray) ++ ⟨#[32]⟩ = ⟨#[32]⟩ from ByteArray.empty_append] at hj
  rw [ByteArray.append_assoc, hj, h, hs]
  by_cases h32 : 32 < k
  · rw [if_pos h32, if_pos h32]; rfl
  · rw [if_neg h32, if_neg h32]; rfl
end Go.Proofs.Ytkkmjgohjaedkaa
