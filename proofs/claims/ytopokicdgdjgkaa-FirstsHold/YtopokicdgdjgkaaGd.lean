import Derived.Test.YtopokicdgdjgkaaGa
import Derived.ProofKit
import Derived.Deep.Heap
/- A reader of tokens byte by byte, as a machine: each of its steps leaves what is yet to be told as it is. No program in sight. -/
namespace Go.Proofs.Ytopokicdgdjgkaa

/-- What a piece bears besides: nothing, a text, two ends. -/
abbrev Pay := Option (ByteArray ⊕ Int × Int)
abbrev Pay.no : Pay := none
abbrev Pay.str (t : ByteArray) : Pay := some (.inl t)
abbrev Pay.ends (lo hi : Int) : Pay := some (.inr (lo, hi))
structure Pc where
  kind : Nat
  pl : Nat
  pay : Pay
def Pc.tok (p : Pc) : Tok := match p.pay with
  | none => ⟨p.kind, p.pl, ⟨#[]⟩, 0, 0⟩
  | some (.inl t) => ⟨p.kind, p.pl, t, 0, 0⟩
  | some (.inr (a, c)) => ⟨p.kind, p.pl, ⟨#[]⟩, a, c⟩
def Pc.fit (p : Pc) : Prop := match p.pay with
  | none => 3 ≤ p.kind ∧ p.kind ≤ 8
  | some (.inl _) => p.kind ≤ 1
  | some (.inr _) => p.kind = 2
structure Mc where
  st : Nat
  nx : Nat
  bg : Nat
  rd : List Int
  ps : List Pc
  ft : Nat

def tail2 (b : Nat → Int) (n nx bg : Nat) (rd : List Int) : Res :=
  if 32 < rd.length + (nameE b n nx - nx) then .error (bg, 201) else Res.cons (nameT bg (rd ++ cut b nx (nameE b n nx))) (lexK b n (nameE b n nx))
def tail3 (b : Nat → Int) (n nx bg : Nat) (rd : List Int) : Res := match textF b n nx rd with
  | none => .error (bg, 201)
  | some (l, to) => Res.cons ⟨1, bg, strOf l, 0, 0⟩ (lexK b n to)
def side1 (b : Nat → Int) (n nx bg : Nat) (a : Int) : Res := match half b n nx with
  | none => .error (bg, 201)
  | some (c, to) => Res.cons ⟨2, bg, ⟨#[]⟩, a, c⟩ (lexK b n to)
def side0 (b : Nat → Int) (n nx bg : Nat) : Res := match half b n nx with
  | none => .error (bg, 201)
  | some (c, to) => if dots b n to then (if n ≤ to + 2 ∨ b (to + 2) ≠ 39 then .error (bg, 201) else side1 b n (to + 3) bg c) else Res.cons ⟨2, bg, ⟨#[]⟩, c, c⟩ (lexK b n to)
def tail4 (b : Nat → Int) (n nx bg : Nat) : List Int → Res
  | [] => side0 b n nx bg
  | a :: _ => side1 b n nx bg a
def tailF (b : Nat → Int) (n nx bg : Nat) (rd : List Int) (ft : Nat) : Nat → Res
  | 0 => lexK b n nx
  | 1 => lexA b n (skp b n true nx)
  | 2 => tail2 b n nx bg rd
  | 3 => tail3 b n nx bg rd
  | 4 => tail4 b n nx bg rd
  | _ => if ft = 0 then .ok [] else .error (bg, ft)
def resume (b : Nat → Int) (n : Nat) (m : Mc) : Res := Res.pre (m.ps.map Pc.tok) (tailF b n m.nx m.bg m.rd m.ft m.st)

def rank (b : Nat → Int) (n nx : Nat) : Nat → Nat
  | 0 => if nx < n ∧ (b nx = 35 ∨ letB (b nx) = true) then 2 else 1
  | 1 => if nx < n ∧ b nx ≠ 10 then 1 else 2
  | 2 => if nx < n ∧ (letB (b nx) || digB (b nx)) = true then 1 else 3
  | 3 => 1
  | 4 => 1
  | _ => 0
def mu (b : Nat → Int) (n st nx : Nat) : Nat := 4 * (n - nx) + rank b n nx st
theorem rank_le (b : Nat → Int) (n nx st : Nat) : rank b n nx st ≤ 3 := by
  unfold rank
  split <;> (try split) <;> omega
theorem mu_on {b : Nat → Int} {n st nx st' nx' : Nat} (h : nx < nx') (hn : nx' ≤ n) : mu b n st' nx' < mu b n st nx := by
  unfold mu
  have := rank_le b n nx' st'
  omega
theorem rank_ge {b : Nat → Int} {n nx st : Nat} (h : st ≤ 4) : 1 ≤ rank b n nx st := by
  unfold rank
  match st, h with
  | 0, _ => show 1 ≤ (if _ then _ else _); split <;> omega
  | 1, _ => show 1 ≤ (if _ then _ else _); split <;> omega
  | 2, _ => show 1 ≤ (if _ then _ else _); split <;> omega
  | 3, _ => exact Nat.le_refl _
  | 4, _ => exact Nat.le_refl _

structure Good (b : Nat → Int) (n : Nat) (m : Mc) : Prop where
  nx : m.nx ≤ n
  st : m.st ≤ 5
  ft : m.st ≠ 5 → m.ft = 0
  fl : m.ft ≤ 201
  ps : ∀ p, p ∈ m.ps → p.fit
  bg : m.bg ≤ n
  pl : m.ps.length ≤ m.nx
  pb : 2 ≤ m.st → m.st ≤ 4 → m.ps.length ≤ m.bg ∧ m.bg ≤ m.nx
  rd : m.rd.length ≤ m.nx
  s2 : m.st = 2 → m.rd.length ≤ 32 ∧ (m.bg < m.nx ∨ (m.nx < n ∧ letB (b m.nx) = true))
  s3 : m.st = 3 → m.bg < m.nx
  s4 : m.st = 4 → m.rd.length ≤ 1 ∧ m.bg < m.nx ∧ ∀ c, c ∈ m.rd → 0 ≤ c ∧ c ≤ 255

def Adv (b : Nat → Int) (n : Nat) (m m' : Mc) : Prop := resume b n m' = resume b n m ∧ mu b n m'.st m'.nx < mu b n m.st m.nx ∧ Good b n m'

section
variable {b : Nat → Int} {n nx bg ft : Nat} {rd : List Int} {ps : List Pc}

theorem skp_here (h : nx < n) (h1 : b nx ≠ 35) (h2 : ¬ (b nx = 9 ∨ b nx = 10 ∨ b nx = 13 ∨ b nx = 32)) : skp b n false nx = nx := by rw [skp_false _ _ _ h, if_neg h1, if_neg h2]
theorem letB_not {c : Int} (h : letB c = true) : c ≠ 35 ∧ ¬ (c = 9 ∨ c = 10 ∨ c = 13 ∨ c = 32) ∧ c ≠ 10 := by
  simp [letB] at h; omega

theorem adv_end (g : Good b n ⟨0, nx, bg, rd, ps, ft⟩) (h : nx = n) : Adv b n ⟨0, nx, bg, rd, ps, ft⟩ ⟨5, nx, nx, [], ps, ft⟩ := by
  have h0 : ft = 0 := g.ft (by dsimp only; decide)
  subst h h0
  refine ⟨?_, ?_, ⟨g.nx, by dsimp only; decide, fun h => absurd rfl h, by dsimp only; decide, g.ps, g.nx, g.pl, fun _ h => by simp at h, by simp, fun h => by simp at h, fun h => by simp at h, fun h => by simp at h⟩⟩
  · show Res.pre _ (Except.ok []) = Res.pre _ (lexK b nx nx)
    rw [lexK_eq _ _ _ (Nat.le_refl _), skp_end _ _ _ _ (Nat.le_refl _), lexA, if_pos (Nat.le_refl _)]
  · have := @rank_ge b nx nx 0 (by decide)
    show 4 * (nx - nx) + 0 < 4 * (nx - nx) + rank b nx nx 0
    omega

theorem adv_blank (g : Good b n ⟨0, nx, bg, rd, ps, ft⟩) (h : nx < n) (hb : b nx = 9 ∨ b nx = 10 ∨ b nx = 13 ∨ b nx = 32) : Adv b n ⟨0, nx, bg, rd, ps, ft⟩ ⟨0, nx + 1, nx, [], ps, ft⟩ := by
  have := g.pl
  simp at this
  refine ⟨?_, (by dsimp only; exact mu_on (Nat.lt_succ_self _) h), ⟨h, by simp, g.ft, g.fl, g.ps, by show nx ≤ n; omega, by show ps.length ≤ nx + 1; omega, fun h => by simp at h, by simp, fun h => by simp at h, fun h => by simp at h, fun h => by simp at h⟩⟩
  show Res.pre _ (lexK b n (nx + 1)) = Res.pre _ (lexK b n nx)
  rw [lexK_eq _ _ _ (by omega), lexK_eq _ _ nx (by omega), skp_false _ _ nx h, if_neg (by omega), if_pos hb]

theorem adv_hash (g : Good b n ⟨0, nx, bg, rd, ps, ft⟩) (h : nx < n) (hb : b nx = 35) : Adv b n ⟨0, nx, bg, rd, ps, ft⟩ ⟨1, nx, nx, [], ps, ft⟩ := by
  refine ⟨?_, ?_, ⟨g.nx, by dsimp only; decide, fun _ => g.ft (by dsimp only; decide), g.fl, g.ps, g.nx, g.pl, fun h => by simp at h, by simp, fun h => by simp at h, fun h => by simp at h, fun h => by simp at h⟩⟩
  · show Res.pre _ (lexA b n (skp b n true nx)) = Res.pre _ (lexK b n nx)
    rw [lexK_eq _ _ nx (by omega), skp_false _ _ nx h, if_pos hb, skp_true _ _ nx h, if_neg (by omega)]
  · show 4 * (n - nx) + rank b n nx 1 < 4 * (n - nx) + rank b n nx 0
    rw [show rank b n nx 1 = 1 from if_pos ⟨h, by omega⟩, show rank b n nx 0 = 2 from if_pos ⟨h, Or.inl hb⟩]; omega

theorem lexK_here (h : nx < n) (h1 : b nx ≠ 35) (h2 : ¬ (b nx = 9 ∨ b nx = 10 ∨ b nx = 13 ∨ b nx = 32)) : lexK b n nx = match tokF b n nx with
    | .ok (t, to) => Res.cons t (lexK b n to)
    | .error true => .error (nx, 201)
    | .error false => .error (nx, 200) := by
  rw [lexK_eq _ _ nx (by omega), skp_here h h1 h2, lexA, if_neg (by omega)]
  rcases tokF b n nx with (_ | _) | ⟨t, to⟩ <;> rfl

theorem adv_letter (g : Good b n ⟨0, nx, bg, rd, ps, ft⟩) (h : nx < n) (hb : letB (b nx) = true) : Adv b n ⟨0, nx, bg, rd, ps, ft⟩ ⟨2, nx, nx, [], ps, ft⟩ := by
  obtain ⟨l1, l2, l3⟩ := letB_not hb
  refine ⟨?_, ?_, ⟨g.nx, by dsimp only; decide, fun _ => g.ft (by dsimp only; decide), g.fl, g.ps, g.nx, g.pl, fun _ _ => ⟨g.pl, Nat.le_refl _⟩, by simp, fun _ => ⟨by simp, Or.inr ⟨h, hb⟩⟩, fun h => by simp at h, fun h => by simp at h⟩⟩
  · show Res.pre _ (tail2 b n nx nx []) = Res.pre _ (lexK b n nx)
    rw [lexK_here h l1 l2, tokF, if_pos hb, nameG, tail2]
    simp only [List.length_nil, Nat.zero_add, List.nil_append]
    by_cases h32 : 32 < nameE b n nx - nx
    · rw [if_pos h32, if_pos h32]
    · rw [if_neg h32, if_neg h32]
  · show 4 * (n - nx) + rank b n nx 2 < 4 * (n - nx) + rank b n nx 0
    rw [show rank b n nx 2 = 1 from if_pos ⟨h, by rw [hb]; rfl⟩, show rank b n nx 0 = 2 from if_pos ⟨h, Or.inr hb⟩]; omega

theorem adv_quote (g : Good b n ⟨0, nx, bg, rd, ps, ft⟩) (h : nx < n) (hb : b nx = 34) : Adv b n ⟨0, nx, bg, rd, ps, ft⟩ ⟨3, nx + 1, nx, [], ps, ft⟩ := by
  have hp := g.pl
  simp at hp
  have hl : letB (b nx) = false := by rw [hb]; rfl
  refine ⟨?_, (by dsimp only; exact mu_on (Nat.lt_succ_self _) h), ⟨h, by dsimp only; decide, fun _ => g.ft (by dsimp only; decide), g.fl, g.ps, by show nx ≤ n; omega, by show ps.length ≤ nx + 1; omega, fun _ _ => ⟨hp, Nat.le_succ _⟩, by simp, fun h => by simp at h, fun _ => Nat.lt_succ_self _, fun h => by simp at h⟩⟩
  show Res.pre _ (tail3 b n (nx + 1) nx []) = Res.pre _ (lexK b n nx)
  rw [lexK_here h (by omega) (by omega), tokF, if_neg (by rw [hl]; simp), if_pos hb, textG, tail3]
  cases textF b n (nx + 1) [] with
  | none => rfl
  | some x => rfl

theorem side0_range : side0 b n (nx + 1) nx = match rangeG b n nx with
    | .ok (t, to) => Res.cons t (lexK b n to)
    | .error true => .error (nx, 201)
    | .error false => .error (nx, 200) := by
  unfold side0 rangeG rangeF
  cases half b n (nx + 1) with
  | none => rfl
  | some x =>
    obtain ⟨c, to⟩ := x
    show (if _ then _ else _) = _
    by_cases hd : dots b n to
    · rw [if_pos hd]
      simp only [if_pos hd, oneF_half]
      by_cases hq : n ≤ to + 2 ∨ b (to + 2) ≠ 39
      · rw [if_pos hq, if_pos hq]
      · rw [if_neg hq, if_neg hq, side1]
        cases half b n (to + 3) with
        | none => rfl
        | some x => rfl
    · rw [if_neg hd]
      simp only [if_neg hd]

theorem adv_apos (g : Good b n ⟨0, nx, bg, rd, ps, ft⟩) (h : nx < n) (hb : b nx = 39) : Adv b n ⟨0, nx, bg, rd, ps, ft⟩ ⟨4, nx + 1, nx, [], ps, ft⟩ := by
  have hp := g.pl
  simp at hp
  have hl : letB (b nx) = false := by rw [hb]; rfl
  refine ⟨?_, (by dsimp only; exact mu_on (Nat.lt_succ_self _) h), ⟨h, by dsimp only; decide, fun _ => g.ft (by dsimp only; decide), g.fl, g.ps, by show nx ≤ n; omega, by show ps.length ≤ nx + 1; omega, fun _ _ => ⟨hp, Nat.le_succ _⟩, by simp, fun h => by simp at h, fun h => by simp at h, fun _ => ⟨by simp, Nat.lt_succ_self _, fun c h => by simp at h⟩⟩⟩
  show Res.pre _ (side0 b n (nx + 1) nx) = Res.pre _ (lexK b n nx)
  rw [lexK_here h (by omega) (by omega), tokF, if_neg (by rw [hl]; simp), if_neg (by omega), if_pos hb, side0_range]

theorem fit_add {p : Pc} (hf : p.fit) (h : ∀ p, p ∈ ps → p.fit) : ∀ q, q ∈ ps ++ [p] → q.fit := fun q hq => by
  rcases List.mem_append.1 hq with h' | h'
  · exact h q h'
  · rw [List.mem_singleton.1 h']; exact hf
theorem markF_le (c : Int) : 0 < markF c → 4 ≤ markF c ∧ markF c ≤ 8 := by
  unfold markF; repeat' split
  all_goals omega
theorem pre_push (p : Pc) (r : Res) : Res.pre ((ps ++ [p]).map Pc.tok) r = Res.pre (ps.map Pc.tok) (Res.cons p.tok r) := by
  rw [Res.pre_cons, List.map_append]; rfl

theorem adv_mark (g : Good b n ⟨0, nx, bg, rd, ps, ft⟩) (h : nx < n) (h0 : ¬ (b nx = 9 ∨ b nx = 10 ∨ b nx = 13 ∨ b nx = 32)) (h1 : b nx ≠ 35) (hl : letB (b nx) = false) (h2 : b nx ≠ 34) (h3 : b nx ≠ 39) (k : Nat) (hk : markF (b nx) = (k : Int)) (hm : 0 < k) :
    Adv b n ⟨0, nx, bg, rd, ps, ft⟩ ⟨0, nx + 1, nx, [], ps ++ [⟨k, nx, .no⟩], ft⟩ := by
  have hp := g.pl
  simp at hp
  have h8 := markF_le (b nx) (by omega)
  refine ⟨?_, (by dsimp only; exact mu_on (Nat.lt_succ_self _) h), ⟨h, by dsimp only; decide, fun _ => g.ft (by dsimp only; decide), g.fl, fit_add ⟨by show 3 ≤ k; omega, by show k ≤ 8; omega⟩ g.ps, by show nx ≤ n; omega, by simp; omega, fun h => by simp at h, by simp, fun h => by simp at h, fun h => by simp at h, fun h => by simp at h⟩⟩
  show Res.pre _ (lexK b n (nx + 1)) = Res.pre _ (lexK b n nx)
  rw [lexK_here h h1 h0, tokF, if_neg (by rw [hl]; simp), if_neg h2, if_neg h3, if_pos (by omega), pre_push, hk]
  rfl

theorem adv_byte (g : Good b n ⟨0, nx, bg, rd, ps, ft⟩) (h : nx < n) (h0 : ¬ (b nx = 9 ∨ b nx = 10 ∨ b nx = 13 ∨ b nx = 32)) (h1 : b nx ≠ 35) (hl : letB (b nx) = false) (h2 : b nx ≠ 34) (h3 : b nx ≠ 39) (hk : markF (b nx) = 0) :
    Adv b n ⟨0, nx, bg, rd, ps, ft⟩ ⟨5, nx, nx, [], ps, 200⟩ := by
  refine ⟨?_, ?_, ⟨g.nx, by dsimp only; decide, fun h => absurd rfl h, by dsimp only; decide, g.ps, g.nx, g.pl, fun _ h => by simp at h, by simp, fun h => by simp at h, fun h => by simp at h, fun h => by simp at h⟩⟩
  · show Res.pre _ (Except.error (nx, 200)) = Res.pre _ (lexK b n nx)
    rw [lexK_here h h1 h0, tokF, if_neg (by rw [hl]; simp), if_neg h2, if_neg h3, if_neg (by omega)]
  · have := @rank_ge b n nx 0 (by decide)
    show 4 * (n - nx) + 0 < 4 * (n - nx) + rank b n nx 0
    omega

theorem adv_line (g : Good b n ⟨1, nx, bg, rd, ps, ft⟩) (h : nx = n ∨ b nx = 10) : Adv b n ⟨1, nx, bg, rd, ps, ft⟩ ⟨0, nx, bg, rd, ps, ft⟩ := by
  have hn : nx ≤ n := g.nx
  refine ⟨?_, ?_, ⟨g.nx, by show 0 ≤ 5; decide, fun _ => g.ft (by show 1 ≠ 5; decide), g.fl, g.ps, g.bg, g.pl, fun h => by simp at h, g.rd, fun h => by simp at h, fun h => by simp at h, fun h => by simp at h⟩⟩
  · show Res.pre _ (lexK b n nx) = Res.pre _ (lexA b n (skp b n true nx))
    rw [lexK_eq _ _ nx hn]
    by_cases e : nx = n
    · rw [skp_end _ _ _ _ (by omega), skp_end _ _ _ _ (by omega)]
    · have hb : b nx = 10 := by omega
      rw [skp_false _ _ nx (by omega), if_neg (by omega), if_pos (by omega), skp_true _ _ nx (by omega), if_pos hb]
  · show 4 * (n - nx) + rank b n nx 0 < 4 * (n - nx) + rank b n nx 1
    rw [show rank b n nx 1 = 2 from if_neg (by omega), show rank b n nx 0 = 1 from if_neg ?_]
    · omega
    · rintro ⟨h1, h2⟩
      have hb : b nx = 10 := by omega
      rw [hb] at h2
      rcases h2 with h2 | h2
      · omega
      · exact absurd h2 (by decide)

theorem adv_comment (g : Good b n ⟨1, nx, bg, rd, ps, ft⟩) (h : nx < n) (hb : b nx ≠ 10) : Adv b n ⟨1, nx, bg, rd, ps, ft⟩ ⟨1, nx + 1, bg, rd, ps, ft⟩ := by
  have hp := g.pl
  have hr := g.rd
  simp at hp hr
  refine ⟨?_, (by dsimp only; exact mu_on (Nat.lt_succ_self _) h), ⟨h, by show 1 ≤ 5; decide, fun _ => g.ft (by show 1 ≠ 5; decide), g.fl, g.ps, g.bg, by simp; omega, fun h => by simp at h, by simp; omega, fun h => by simp at h, fun h => by simp at h, fun h => by simp at h⟩⟩
  show Res.pre _ (lexA b n (skp b n true (nx + 1))) = Res.pre _ (lexA b n (skp b n true nx))
  rw [skp_true _ _ nx h, if_neg hb]

theorem adv_long (g : Good b n ⟨2, nx, bg, rd, ps, ft⟩) (h : nx < n) (hb : (letB (b nx) || digB (b nx)) = true) (hl : rd.length = 32) : Adv b n ⟨2, nx, bg, rd, ps, ft⟩ ⟨5, nx, bg, rd, ps, 201⟩ := by
  refine ⟨?_, ?_, ⟨g.nx, by show 5 ≤ 5; decide, fun h => absurd rfl h, by dsimp only; decide, g.ps, g.bg, g.pl, fun _ h => by simp at h, g.rd, fun h => by simp at h, fun h => by simp at h, fun h => by simp at h⟩⟩
  · show Res.pre _ (Except.error (bg, 201)) = Res.pre _ (tail2 b n nx bg rd)
    have := nameE_ge b n (nx + 1)
    rw [tail2, nameE_in b n nx h hb, if_pos (by omega)]
  · have := @rank_ge b n nx 2 (by decide)
    show 4 * (n - nx) + 0 < 4 * (n - nx) + rank b n nx 2
    omega

theorem adv_in (g : Good b n ⟨2, nx, bg, rd, ps, ft⟩) (h : nx < n) (hb : (letB (b nx) || digB (b nx)) = true) (hl : rd.length ≠ 32) : Adv b n ⟨2, nx, bg, rd, ps, ft⟩ ⟨2, nx + 1, bg, rd ++ [b nx], ps, ft⟩ := by
  have hp := g.pl
  have hr := g.rd
  obtain ⟨hl2, hb2⟩ := g.s2 rfl
  obtain ⟨hp1, hp2⟩ := g.pb (by show 2 ≤ 2; decide) (by show 2 ≤ 4; decide)
  simp at hp hr hl2 hp1 hp2
  refine ⟨?_, ?_, ⟨h, by show 2 ≤ 5; decide, fun _ => g.ft (by show 2 ≠ 5; decide), g.fl, g.ps, g.bg, by simp; omega, fun _ _ => ⟨hp1, by simp; omega⟩, by simp; omega, fun _ => ⟨by simp; omega, Or.inl (by simp; omega)⟩, fun h => by simp at h, fun h => by simp at h⟩⟩
  · show Res.pre _ (tail2 b n (nx + 1) bg (rd ++ [b nx])) = Res.pre _ (tail2 b n nx bg rd)
    have hge := nameE_ge b n (nx + 1)
    rw [tail2, tail2, nameE_in b n nx h hb, cut_cons b nx _ (by omega)]
    simp only [List.length_append, List.length_singleton, List.append_assoc, List.singleton_append]
    rw [show rd.length + 1 + (nameE b n (nx + 1) - (nx + 1)) = rd.length + (nameE b n (nx + 1) - nx) by omega]
  · (dsimp only; exact mu_on (Nat.lt_succ_self _) h)

theorem adv_shut (g : Good b n ⟨2, nx, bg, rd, ps, ft⟩) (h : nx = n ∨ (letB (b nx) || digB (b nx)) = false) (p : Pc) (hp : p = if isStart rd = true then ⟨3, bg, .no⟩ else ⟨0, bg, .str (strOf rd)⟩) : Adv b n ⟨2, nx, bg, rd, ps, ft⟩ ⟨0, nx, bg, rd, ps ++ [p], ft⟩ := by
  obtain ⟨hl2, hb2⟩ := g.s2 rfl
  obtain ⟨hp1, hp2⟩ := g.pb (by show 2 ≤ 2; decide) (by show 2 ≤ 4; decide)
  have hn : nx ≤ n := g.nx
  simp at hl2 hb2 hp1 hp2
  have hlt : bg < nx := by
    rcases hb2 with h1 | ⟨h1, h2⟩
    · exact h1
    · rcases h with h3 | h3
      · omega
      · rw [h2] at h3; simp at h3
  have hfit : p.fit := by rw [hp]; split <;> simp [Pc.fit]
  have hne : nameE b n nx = nx := by
    by_cases e : nx = n
    · exact nameE_end _ _ _ (by omega)
    · rcases h with h | h
      · omega
      · exact nameE_out _ _ _ (by omega) h
  refine ⟨?_, ?_, ⟨g.nx, by show 0 ≤ 5; decide, fun _ => g.ft (by show 2 ≠ 5; decide), g.fl, fit_add hfit g.ps, g.bg, by simp; omega, fun h => by simp at h, g.rd, fun h => by simp at h, fun h => by simp at h, fun h => by simp at h⟩⟩
  · show Res.pre _ (lexK b n nx) = Res.pre _ (tail2 b n nx bg rd)
    rw [tail2, hne, if_neg (by omega), cut_nil, List.append_nil, pre_push]
    congr 2
    rw [hp, nameT]
    by_cases e : isStart rd = true
    · rw [if_pos e, if_pos e]; rfl
    · rw [if_neg e, if_neg e]; rfl
  · show 4 * (n - nx) + rank b n nx 0 < 4 * (n - nx) + rank b n nx 2
    have h0 : rank b n nx 0 ≤ 2 := by show (if _ then _ else _) ≤ 2; split <;> omega
    rw [show rank b n nx 2 = 3 from if_neg ?_]
    · omega
    · rintro ⟨h1, h2⟩
      rcases h with h3 | h3
      · omega
      · rw [h2] at h3; cases h3

theorem adv_textEnd (g : Good b n ⟨3, nx, bg, rd, ps, ft⟩) (h : nx < n) (hb : b nx = 34) : Adv b n ⟨3, nx, bg, rd, ps, ft⟩ ⟨0, nx + 1, bg, rd, ps ++ [⟨1, bg, .str (strOf rd)⟩], ft⟩ := by
  obtain ⟨hp1, hp2⟩ := g.pb (by show 2 ≤ 3; decide) (by show 3 ≤ 4; decide)
  have hr := g.rd
  simp at hp1 hp2 hr
  refine ⟨?_, (by dsimp only; exact mu_on (Nat.lt_succ_self _) h), ⟨h, by show 0 ≤ 5; decide, fun _ => g.ft (by show 3 ≠ 5; decide), g.fl, fit_add (by show 1 ≤ 1; decide) g.ps, g.bg, by simp; omega, fun h => by simp at h, by simp; omega, fun h => by simp at h, fun h => by simp at h, fun h => by simp at h⟩⟩
  show Res.pre _ (lexK b n (nx + 1)) = Res.pre _ (tail3 b n nx bg rd)
  rw [tail3, textF_eq _ _ _ _ (by omega), if_pos ⟨h, hb⟩, pre_push]
  rfl

theorem adv_textBad (g : Good b n ⟨3, nx, bg, rd, ps, ft⟩) (hb : ¬ (nx < n ∧ b nx = 34)) (hs : signF b n nx 34 = none) : Adv b n ⟨3, nx, bg, rd, ps, ft⟩ ⟨5, nx, bg, rd, ps, 201⟩ := by
  have hn : nx ≤ n := g.nx
  refine ⟨?_, ?_, ⟨g.nx, by show 5 ≤ 5; decide, fun h => absurd rfl h, by dsimp only; decide, g.ps, g.bg, g.pl, fun _ h => by simp at h, g.rd, fun h => by simp at h, fun h => by simp at h, fun h => by simp at h⟩⟩
  · show Res.pre _ (Except.error (bg, 201)) = Res.pre _ (tail3 b n nx bg rd)
    rw [tail3, textF_eq _ _ _ _ hn, if_neg hb, hs]
  · show 4 * (n - nx) + 0 < 4 * (n - nx) + 1
    omega

theorem adv_text (g : Good b n ⟨3, nx, bg, rd, ps, ft⟩) (hb : ¬ (nx < n ∧ b nx = 34)) {c : Int} {to : Nat} (hs : signF b n nx 34 = some (c, to)) : Adv b n ⟨3, nx, bg, rd, ps, ft⟩ ⟨3, to, bg, rd ++ [c], ps, ft⟩ := by
  obtain ⟨h1, h2⟩ := signF_to hs
  obtain ⟨hp1, hp2⟩ := g.pb (by show 2 ≤ 3; decide) (by show 3 ≤ 4; decide)
  have hr := g.rd
  have hn : nx ≤ n := g.nx
  simp at hp1 hp2 hr
  refine ⟨?_, (by dsimp only; exact mu_on h1 h2), ⟨h2, by show 3 ≤ 5; decide, fun _ => g.ft (by show 3 ≠ 5; decide), g.fl, g.ps, g.bg, by simp; omega, fun _ _ => ⟨hp1, by simp; omega⟩, by simp; omega, fun h => by simp at h, fun _ => by simp; omega, fun h => by simp at h⟩⟩
  show Res.pre _ (tail3 b n to bg (rd ++ [c])) = Res.pre _ (tail3 b n nx bg rd)
  rw [tail3, tail3, textF_eq b n nx rd hn, if_neg hb, hs]

theorem adv_sideBad (g : Good b n ⟨4, nx, bg, rd, ps, ft⟩) (hs : half b n nx = none) : Adv b n ⟨4, nx, bg, rd, ps, ft⟩ ⟨5, nx, bg, rd, ps, 201⟩ := by
  refine ⟨?_, ?_, ⟨g.nx, by show 5 ≤ 5; decide, fun h => absurd rfl h, by dsimp only; decide, g.ps, g.bg, g.pl, fun _ h => by simp at h, g.rd, fun h => by simp at h, fun h => by simp at h, fun h => by simp at h⟩⟩
  · show Res.pre _ (Except.error (bg, 201)) = Res.pre _ (tail4 b n nx bg rd)
    cases rd with
    | nil => rw [tail4, side0, hs]
    | cons a l => rw [tail4, side1, hs]
  · show 4 * (n - nx) + 0 < 4 * (n - nx) + 1
    omega

theorem adv_sideTwo {a : Int} (g : Good b n ⟨4, nx, bg, [a], ps, ft⟩) {c : Int} {to : Nat} (hs : half b n nx = some (c, to)) : Adv b n ⟨4, nx, bg, [a], ps, ft⟩ ⟨0, to, bg, [a] ++ [c], ps ++ [⟨2, bg, .ends a c⟩], ft⟩ := by
  obtain ⟨h1, h2⟩ := half_to hs
  obtain ⟨hp1, hp2⟩ := g.pb (by show 2 ≤ 4; decide) (by show 4 ≤ 4; decide)
  simp at hp1 hp2
  refine ⟨?_, (by dsimp only; exact mu_on (by omega) h2), ⟨h2, by show 0 ≤ 5; decide, fun _ => g.ft (by show 4 ≠ 5; decide), g.fl, fit_add (by show 2 = 2; rfl) g.ps, g.bg, by simp; omega, fun h => by simp at h, by simp; omega, fun h => by simp at h, fun h => by simp at h, fun h => by simp at h⟩⟩
  show Res.pre _ (lexK b n to) = Res.pre _ (side1 b n nx bg a)
  rw [side1, hs, pre_push]
  rfl

theorem adv_sideOne (g : Good b n ⟨4, nx, bg, [], ps, ft⟩) {c : Int} {to : Nat} (hs : half b n nx = some (c, to)) (hd : ¬ dots b n to) : Adv b n ⟨4, nx, bg, [], ps, ft⟩ ⟨0, to, bg, [] ++ [c], ps ++ [⟨2, bg, .ends c c⟩], ft⟩ := by
  obtain ⟨h1, h2⟩ := half_to hs
  obtain ⟨hp1, hp2⟩ := g.pb (by show 2 ≤ 4; decide) (by show 4 ≤ 4; decide)
  simp at hp1 hp2
  refine ⟨?_, (by dsimp only; exact mu_on (by omega) h2), ⟨h2, by show 0 ≤ 5; decide, fun _ => g.ft (by show 4 ≠ 5; decide), g.fl, fit_add (by show 2 = 2; rfl) g.ps, g.bg, by simp; omega, fun h => by simp at h, by simp; omega, fun h => by simp at h, fun h => by simp at h, fun h => by simp at h⟩⟩
  show Res.pre _ (lexK b n to) = Res.pre _ (side0 b n nx bg)
  rw [side0, hs, pre_push]
  show _ = Res.pre _ (if dots b n to then _ else _)
  rw [if_neg hd]
  rfl

theorem adv_sideNo (g : Good b n ⟨4, nx, bg, [], ps, ft⟩) {c : Int} {to : Nat} (hs : half b n nx = some (c, to)) (hd : dots b n to) (hq : n ≤ to + 2 ∨ b (to + 2) ≠ 39) : Adv b n ⟨4, nx, bg, [], ps, ft⟩ ⟨5, to, bg, [] ++ [c], ps, 201⟩ := by
  obtain ⟨h1, h2⟩ := half_to hs
  have hp := g.pl
  simp at hp
  refine ⟨?_, (by dsimp only; exact mu_on (by omega) h2), ⟨h2, by show 5 ≤ 5; decide, fun h => absurd rfl h, by dsimp only; decide, g.ps, g.bg, by simp; omega, fun _ h => by simp at h, by simp; omega, fun h => by simp at h, fun h => by simp at h, fun h => by simp at h⟩⟩
  show Res.pre _ (Except.error (bg, 201)) = Res.pre _ (side0 b n nx bg)
  rw [side0, hs]
  show _ = Res.pre _ (if dots b n to then (if _ then _ else _) else _)
  rw [if_pos hd, if_pos hq]

theorem adv_side (g : Good b n ⟨4, nx, bg, [], ps, ft⟩) {c : Int} {to : Nat} (hs : half b n nx = some (c, to)) (hd : dots b n to) (hq : ¬ (n ≤ to + 2 ∨ b (to + 2) ≠ 39)) (hc : 0 ≤ c ∧ c ≤ 255) : Adv b n ⟨4, nx, bg, [], ps, ft⟩ ⟨4, to + 3, bg, [] ++ [c], ps, ft⟩ := by
  obtain ⟨h1, h2⟩ := half_to hs
  obtain ⟨hp1, hp2⟩ := g.pb (by show 2 ≤ 4; decide) (by show 4 ≤ 4; decide)
  simp at hp1 hp2
  refine ⟨?_, (by dsimp only; exact mu_on (by omega) (by omega)), ⟨by show to + 3 ≤ n; omega, by show 4 ≤ 5; decide, fun _ => g.ft (by show 4 ≠ 5; decide), g.fl, g.ps, g.bg, by simp; omega, fun _ _ => ⟨hp1, by simp; omega⟩, by simp, fun h => by simp at h, fun h => by simp at h, fun _ => ⟨by simp, by simp; omega, fun x h => by simp at h; subst h; exact hc⟩⟩⟩
  show Res.pre _ (side1 b n (to + 3) bg c) = Res.pre _ (side0 b n nx bg)
  rw [side0, hs]
  show _ = Res.pre _ (if dots b n to then (if _ then _ else _) else _)
  rw [if_pos hd, if_neg hq]
end

theorem good0 (b : Nat → Int) (n : Nat) : Good b n ⟨0, 0, 0, [], [], 0⟩ :=
  ⟨Nat.zero_le _, by decide, fun _ => rfl, by decide, fun p h => by simp at h, Nat.zero_le _, Nat.le_refl _, fun h => by simp at h, by simp, fun h => by simp at h, fun h => by simp at h, fun h => by simp at h⟩
theorem resume0 (b : Nat → Int) (n : Nat) : resume b n ⟨0, 0, 0, [], [], 0⟩ = lexK b n 0 := Res.pre_nil _
end Go.Proofs.Ytopokicdgdjgkaa
/- A reader in memory: seven cells, a row of bytes, a row of pieces. No program in sight. -/
namespace Go.Proofs.Ytopokicdgdjgkaa
open Go.RowKit

theorem row_slice {w : World} {base e size n : Nat} {v : Value} {xs : List Value} (h : w.ownsRow base e size v n xs) : ∃ p cap, v = .slice p n cap := by
  obtain ⟨_, ⟨h1, h2⟩ | ⟨g, cap, cur, h1, _⟩⟩ := h
  · exact ⟨none, 0, by rw [h1, h2]⟩
  · exact ⟨_, _, h1⟩
theorem row_mono {w : World} {base base' e size n : Nat} {v : Value} {xs : List Value} (h : w.ownsRow base e size v n xs) (hb : base' ≤ base) : w.ownsRow base' e size v n xs := by
  obtain ⟨h0, h1 | ⟨g, cap, cur, h1, h2, h3⟩⟩ := h
  · exact ⟨h0, .inl h1⟩
  · exact ⟨h0, .inr ⟨g, cap, cur, h1, by omega, h3⟩⟩
theorem row_block {w w' : World} {base e size n : Nat} {v : Value} {xs : List Value} (h : w.ownsRow base e size v n xs) (hb : ∀ g, base ≤ g → g < w.heap.size → w'.heap[g]? = w.heap[g]?) : w'.ownsRow base e size v n xs := by
  obtain ⟨h0, h1 | ⟨g, cap, cur, h1, h2, h3, h4⟩⟩ := h
  · exact ⟨h0, .inl h1⟩
  · have hg : g < w.heap.size := by
      by_cases hh : g < w.heap.size
      · exact hh
      · rw [Array.getElem?_eq_none (by omega)] at h3; cases h3
    exact ⟨h0, .inr ⟨g, cap, cur, h1, h2, by rw [hb g h2 hg]; exact h3, h4⟩⟩
theorem row_keep {w w' : World} {base e size n : Nat} {v : Value} {xs : List Value} (h : w.ownsRow base e size v n xs) (hb : Below w.heap.size w w') : w'.ownsRow base e size v n xs :=
  row_block h fun g _ hg => hb.block g hg
theorem cell_lt {w : World} {b j : Nat} {v : Value} (h : w.cell? ⟨b, j, none⟩ = some v) : b < w.heap.size := by
  by_cases hb : b < w.heap.size
  · exact hb
  · exfalso
    have e : w.heap[b]? = none := Array.getElem?_eq_none (by omega)
    simp [World.cell?, e] at h
/-- A row of one element type is no row of another. -/
theorem row_apart {w : World} {base base' e e' size size' n n' : Nat} {v v' : Value} {xs xs' : List Value} (h : w.ownsRow base e size v n xs) (h' : w.ownsRow base' e' size' v' n' xs') (he : e ≠ e') :
    ∀ k, v.ownBlock = some k → v'.ownBlock ≠ some k := by
  intro k hk hk'
  obtain ⟨_, ⟨h1, _⟩ | ⟨g, cap, cur, h1, _, h3, _⟩⟩ := h
  · rw [h1] at hk; cases hk
  · obtain ⟨_, ⟨h1', _⟩ | ⟨g', cap', cur', h1', _, h3', _⟩⟩ := h'
    · rw [h1'] at hk'; cases hk'
    · rw [h1] at hk; rw [h1'] at hk'
      injection hk with hk; injection hk' with hk'
      have hk : g = k := hk
      have hk' : g' = k := hk'
      subst hk hk'
      rw [h3] at h3'
      injection h3' with h3'
      injection h3' with _ h4
      exact he h4
theorem row_grown {w w' : World} {base base' e e' size size' n n' : Nat} {v v' : Value} {xs xs' : List Value} (h : w.ownsRow base e size v n xs) (h' : w.ownsRow base' e' size' v' n' xs') (he : e ≠ e') (hg : w.grownBy w' v'.ownBlock) : w'.ownsRow base e size v n xs := by
  refine h.kept hg ?_
  cases hv : v.ownBlock with
  | none => exact .inl rfl
  | some k => exact .inr fun e => row_apart h h' he k hv e.symm

def bytesV (l : List Int) : List Value := l.map (Value.int .u8)
def payV : Pay → Value
  | none => .nilIface
  | some (.inl t) => .iface 9 (.string t)
  | some (.inr (a, c)) => .iface 123 (.agg #[.int .i64 a, .int .i64 c])
def pcV (p : Pc) : List Value := [.int .i64 (p.kind : Int), .int .i64 (p.pl : Int), payV p.pay]
def pcsV : List Pc → List Value
  | [] => []
  | p :: l => pcV p ++ pcsV l
theorem pcsV_append : ∀ l m : List Pc, pcsV (l ++ m) = pcsV l ++ pcsV m
  | [], _ => rfl
  | p :: l, m => by simp [pcsV, pcsV_append l m]
theorem pcsV_length : ∀ l : List Pc, (pcsV l).length = l.length * 3
  | [] => rfl
  | p :: l => by simp [pcsV, pcV, pcsV_length l]; omega
theorem bytesV_append (l m : List Int) : bytesV (l ++ m) = bytesV l ++ bytesV m := by simp [bytesV]

/-- Block B of w is a reader of s in state m; below B all is as in W. -/
structure Rd (W : World) (B : Nat) (s : ByteArray) (m : Mc) (w : World) : Prop where
  c0 : w.cell? ⟨B, 0, none⟩ = some (.string s)
  c1 : w.cell? ⟨B, 1, none⟩ = some (.int .i64 (m.st : Int))
  c2 : w.cell? ⟨B, 2, none⟩ = some (.int .i64 (m.nx : Int))
  c3 : w.cell? ⟨B, 3, none⟩ = some (.int .i64 (m.bg : Int))
  c4 : ∃ v, w.cell? ⟨B, 4, none⟩ = some v ∧ w.ownsRow (B + 1) 5 1 v m.rd.length (bytesV m.rd)
  c5 : ∃ v, w.cell? ⟨B, 5, none⟩ = some v ∧ w.ownsRow (B + 1) 111 3 v m.ps.length (pcsV m.ps)
  c6 : w.cell? ⟨B, 6, none⟩ = some (.int .i64 (m.ft : Int))
  fz : ∀ j, w.frozen? ⟨B, j, none⟩ = false
  bl : Below B W w

theorem Rd.lt {W w : World} {B : Nat} {s : ByteArray} {m : Mc} (h : Rd W B s m w) : B < w.heap.size := cell_lt h.c0
theorem Rd.keep {W w w' : World} {B : Nat} {s : ByteArray} {m : Mc} (h : Rd W B s m w) (hb : Below w.heap.size w w') : Rd W B s m w' := by
  have hl := h.lt
  have hc : ∀ j, w'.cell? ⟨B, j, none⟩ = w.cell? ⟨B, j, none⟩ := fun j => hb.cell (p := ⟨B, j, none⟩) hl
  obtain ⟨v4, h4, o4⟩ := h.c4
  obtain ⟨v5, h5, o5⟩ := h.c5
  exact ⟨(hc 0).trans h.c0, (hc 1).trans h.c1, (hc 2).trans h.c2, (hc 3).trans h.c3, ⟨v4, (hc 4).trans h4, row_keep o4 hb⟩, ⟨v5, (hc 5).trans h5, row_keep o5 hb⟩, (hc 6).trans h.c6,
    fun j => (hb.frozen (p := ⟨B, j, none⟩) hl).trans (h.fz j), h.bl.trans (hb.mono (by omega))⟩
theorem ne_off {B j k : Nat} (h : j ≠ k) : (⟨B, j, none⟩ : Addr) ≠ ⟨B, k, none⟩ := fun e => by injection e with _ e2; exact h e2
theorem Rd.put1 {W w : World} {B : Nat} {s : ByteArray} {st nx bg : Nat} {rd : List Int} {ps : List Pc} {ft : Nat} (h : Rd W B s ⟨st, nx, bg, rd, ps, ft⟩ w) (k : Nat) : Rd W B s ⟨k, nx, bg, rd, ps, ft⟩ (w.setCell ⟨B, 1, none⟩ (.int .i64 (k : Int))) := by
  obtain ⟨v4, h4, o4⟩ := h.c4
  obtain ⟨v5, h5, o5⟩ := h.c5
  have hc : ∀ j, j ≠ 1 → (w.setCell ⟨B, 1, none⟩ (.int .i64 (k : Int))).cell? ⟨B, j, none⟩ = w.cell? ⟨B, j, none⟩ := fun j hj => World.cell?_setCell_other _ _ _ _ (ne_off (Ne.symm hj))
  exact ⟨(hc 0 (by decide)).trans h.c0, World.cell?_setCell_same _ _ _ h.c1, (hc 2 (by decide)).trans h.c2, (hc 3 (by decide)).trans h.c3, ⟨v4, (hc 4 (by decide)).trans h4, ownsRow_setCell_below o4 (by show B < B + 1; omega) _⟩,
    ⟨v5, (hc 5 (by decide)).trans h5, ownsRow_setCell_below o5 (by show B < B + 1; omega) _⟩, (hc 6 (by decide)).trans h.c6, fun j => (World.frozen?_setCell _ _ _ _).trans (h.fz j), h.bl.setCell (p := ⟨B, 1, none⟩) (Nat.le_refl _) _⟩
theorem Rd.put2 {W w : World} {B : Nat} {s : ByteArray} {st nx bg : Nat} {rd : List Int} {ps : List Pc} {ft : Nat} (h : Rd W B s ⟨st, nx, bg, rd, ps, ft⟩ w) (k : Nat) (z : Int) (hz : z = (k : Int)) : Rd W B s ⟨st, k, bg, rd, ps, ft⟩ (w.setCell ⟨B, 2, none⟩ (.int .i64 z)) := by
  subst hz
  obtain ⟨v4, h4, o4⟩ := h.c4
  obtain ⟨v5, h5, o5⟩ := h.c5
  have hc : ∀ j, j ≠ 2 → (w.setCell ⟨B, 2, none⟩ (.int .i64 (k : Int))).cell? ⟨B, j, none⟩ = w.cell? ⟨B, j, none⟩ := fun j hj => World.cell?_setCell_other _ _ _ _ (ne_off (Ne.symm hj))
  exact ⟨(hc 0 (by decide)).trans h.c0, (hc 1 (by decide)).trans h.c1, World.cell?_setCell_same _ _ _ h.c2, (hc 3 (by decide)).trans h.c3, ⟨v4, (hc 4 (by decide)).trans h4, ownsRow_setCell_below o4 (by show B < B + 1; omega) _⟩,
    ⟨v5, (hc 5 (by decide)).trans h5, ownsRow_setCell_below o5 (by show B < B + 1; omega) _⟩, (hc 6 (by decide)).trans h.c6, fun j => (World.frozen?_setCell _ _ _ _).trans (h.fz j), h.bl.setCell (p := ⟨B, 2, none⟩) (Nat.le_refl _) _⟩
theorem Rd.put3 {W w : World} {B : Nat} {s : ByteArray} {st nx bg : Nat} {rd : List Int} {ps : List Pc} {ft : Nat} (h : Rd W B s ⟨st, nx, bg, rd, ps, ft⟩ w) (k : Nat) : Rd W B s ⟨st, nx, k, rd, ps, ft⟩ (w.setCell ⟨B, 3, none⟩ (.int .i64 (k : Int))) := by
  obtain ⟨v4, h4, o4⟩ := h.c4
  obtain ⟨v5, h5, o5⟩ := h.c5
  have hc : ∀ j, j ≠ 3 → (w.setCell ⟨B, 3, none⟩ (.int .i64 (k : Int))).cell? ⟨B, j, none⟩ = w.cell? ⟨B, j, none⟩ := fun j hj => World.cell?_setCell_other _ _ _ _ (ne_off (Ne.symm hj))
  exact ⟨(hc 0 (by decide)).trans h.c0, (hc 1 (by decide)).trans h.c1, (hc 2 (by decide)).trans h.c2, World.cell?_setCell_same _ _ _ h.c3, ⟨v4, (hc 4 (by decide)).trans h4, ownsRow_setCell_below o4 (by show B < B + 1; omega) _⟩,
    ⟨v5, (hc 5 (by decide)).trans h5, ownsRow_setCell_below o5 (by show B < B + 1; omega) _⟩, (hc 6 (by decide)).trans h.c6, fun j => (World.frozen?_setCell _ _ _ _).trans (h.fz j), h.bl.setCell (p := ⟨B, 3, none⟩) (Nat.le_refl _) _⟩
theorem Rd.put6 {W w : World} {B : Nat} {s : ByteArray} {st nx bg : Nat} {rd : List Int} {ps : List Pc} {ft : Nat} (h : Rd W B s ⟨st, nx, bg, rd, ps, ft⟩ w) (k : Nat) : Rd W B s ⟨st, nx, bg, rd, ps, k⟩ (w.setCell ⟨B, 6, none⟩ (.int .i64 (k : Int))) := by
  obtain ⟨v4, h4, o4⟩ := h.c4
  obtain ⟨v5, h5, o5⟩ := h.c5
  have hc : ∀ j, j ≠ 6 → (w.setCell ⟨B, 6, none⟩ (.int .i64 (k : Int))).cell? ⟨B, j, none⟩ = w.cell? ⟨B, j, none⟩ := fun j hj => World.cell?_setCell_other _ _ _ _ (ne_off (Ne.symm hj))
  exact ⟨(hc 0 (by decide)).trans h.c0, (hc 1 (by decide)).trans h.c1, (hc 2 (by decide)).trans h.c2, (hc 3 (by decide)).trans h.c3, ⟨v4, (hc 4 (by decide)).trans h4, ownsRow_setCell_below o4 (by show B < B + 1; omega) _⟩,
    ⟨v5, (hc 5 (by decide)).trans h5, ownsRow_setCell_below o5 (by show B < B + 1; omega) _⟩, World.cell?_setCell_same _ _ _ h.c6, fun j => (World.frozen?_setCell _ _ _ _).trans (h.fz j), h.bl.setCell (p := ⟨B, 6, none⟩) (Nat.le_refl _) _⟩
/-- A new row of bytes in cell 4. -/
theorem Rd.put4 {W w : World} {B : Nat} {s : ByteArray} {st nx bg : Nat} {rd : List Int} {ps : List Pc} {ft : Nat} (h : Rd W B s ⟨st, nx, bg, rd, ps, ft⟩ w) (l : List Int) (v : Value) (o : w.ownsRow (B + 1) 5 1 v l.length (bytesV l)) : Rd W B s ⟨st, nx, bg, l, ps, ft⟩ (w.setCell ⟨B, 4, none⟩ v) := by
  obtain ⟨v4, h4, o4⟩ := h.c4
  obtain ⟨v5, h5, o5⟩ := h.c5
  have hc : ∀ j, j ≠ 4 → (w.setCell ⟨B, 4, none⟩ v).cell? ⟨B, j, none⟩ = w.cell? ⟨B, j, none⟩ := fun j hj => World.cell?_setCell_other _ _ _ _ (ne_off (Ne.symm hj))
  exact ⟨(hc 0 (by decide)).trans h.c0, (hc 1 (by decide)).trans h.c1, (hc 2 (by decide)).trans h.c2, (hc 3 (by decide)).trans h.c3, ⟨v, World.cell?_setCell_same _ _ _ h4, ownsRow_setCell_below o (by show B < B + 1; omega) _⟩,
    ⟨v5, (hc 5 (by decide)).trans h5, ownsRow_setCell_below o5 (by show B < B + 1; omega) _⟩, (hc 6 (by decide)).trans h.c6, fun j => (World.frozen?_setCell _ _ _ _).trans (h.fz j), h.bl.setCell (p := ⟨B, 4, none⟩) (Nat.le_refl _) _⟩
theorem Rd.put5 {W w : World} {B : Nat} {s : ByteArray} {st nx bg : Nat} {rd : List Int} {ps : List Pc} {ft : Nat} (h : Rd W B s ⟨st, nx, bg, rd, ps, ft⟩ w) (l : List Pc) (v : Value) (o : w.ownsRow (B + 1) 111 3 v l.length (pcsV l)) : Rd W B s ⟨st, nx, bg, rd, l, ft⟩ (w.setCell ⟨B, 5, none⟩ v) := by
  obtain ⟨v4, h4, o4⟩ := h.c4
  obtain ⟨v5, h5, o5⟩ := h.c5
  have hc : ∀ j, j ≠ 5 → (w.setCell ⟨B, 5, none⟩ v).cell? ⟨B, j, none⟩ = w.cell? ⟨B, j, none⟩ := fun j hj => World.cell?_setCell_other _ _ _ _ (ne_off (Ne.symm hj))
  exact ⟨(hc 0 (by decide)).trans h.c0, (hc 1 (by decide)).trans h.c1, (hc 2 (by decide)).trans h.c2, (hc 3 (by decide)).trans h.c3, ⟨v4, (hc 4 (by decide)).trans h4, ownsRow_setCell_below o4 (by show B < B + 1; omega) _⟩,
    ⟨v, World.cell?_setCell_same _ _ _ h5, ownsRow_setCell_below o (by show B < B + 1; omega) _⟩, (hc 6 (by decide)).trans h.c6, fun j => (World.frozen?_setCell _ _ _ _).trans (h.fz j), h.bl.setCell (p := ⟨B, 5, none⟩) (Nat.le_refl _) _⟩
/-- Behind an append to one of the reader's own rows. -/
theorem Rd.grown4 {W w w' : World} {B : Nat} {s : ByteArray} {m : Mc} (h : Rd W B s m w) {v : Value} (hv : w.cell? ⟨B, 4, none⟩ = some v) (hg : w.grownBy w' v.ownBlock) :
    (∀ j, w'.cell? ⟨B, j, none⟩ = w.cell? ⟨B, j, none⟩) ∧ (∀ j, w'.frozen? ⟨B, j, none⟩ = false) ∧ Below B W w' ∧ ∃ v5, w'.cell? ⟨B, 5, none⟩ = some v5 ∧ w'.ownsRow (B + 1) 111 3 v5 m.ps.length (pcsV m.ps) := by
  have hl := h.lt
  obtain ⟨v4, h4, o4⟩ := h.c4
  obtain ⟨v5, h5, o5⟩ := h.c5
  obtain rfl : v = v4 := by rw [hv] at h4; injection h4
  have hne : some B ≠ v.ownBlock := fun e => by have := o4.lt B e.symm; omega
  have hb := hg.block B hl hne
  refine ⟨fun j => World.cell?_of_block (a := ⟨B, j, none⟩) hb, fun j => (World.frozen?_of_block (a := ⟨B, j, none⟩) hb).trans (h.fz j), h.bl.grown hg (by omega) (fun k hk => by have := o4.lt k hk; omega), v5, ?_, row_grown o5 o4 (by decide) hg⟩
  exact (World.cell?_of_block (a := ⟨B, 5, none⟩) hb).trans h5
theorem Rd.grown5 {W w w' : World} {B : Nat} {s : ByteArray} {m : Mc} (h : Rd W B s m w) {v : Value} (hv : w.cell? ⟨B, 5, none⟩ = some v) (hg : w.grownBy w' v.ownBlock) :
    (∀ j, w'.cell? ⟨B, j, none⟩ = w.cell? ⟨B, j, none⟩) ∧ (∀ j, w'.frozen? ⟨B, j, none⟩ = false) ∧ Below B W w' ∧ ∃ v4, w'.cell? ⟨B, 4, none⟩ = some v4 ∧ w'.ownsRow (B + 1) 5 1 v4 m.rd.length (bytesV m.rd) := by
  have hl := h.lt
  obtain ⟨v4, h4, o4⟩ := h.c4
  obtain ⟨v5, h5, o5⟩ := h.c5
  obtain rfl : v = v5 := by rw [hv] at h5; injection h5
  have hne : some B ≠ v.ownBlock := fun e => by have := o5.lt B e.symm; omega
  have hb := hg.block B hl hne
  refine ⟨fun j => World.cell?_of_block (a := ⟨B, j, none⟩) hb, fun j => (World.frozen?_of_block (a := ⟨B, j, none⟩) hb).trans (h.fz j), h.bl.grown hg (by omega) (fun k hk => by have := o5.lt k hk; omega), v4, ?_, row_grown o4 o5 (by decide) hg⟩
  exact (World.cell?_of_block (a := ⟨B, 4, none⟩) hb).trans h4
/-- The four numbers, the text; that all may be written. -/
theorem Rd.all {W w : World} {B : Nat} {s : ByteArray} {st nx bg : Nat} {rd : List Int} {ps : List Pc} {ft : Nat} (h : Rd W B s ⟨st, nx, bg, rd, ps, ft⟩ w) :
    w.cell? ⟨B, 0, none⟩ = some (.string s) ∧ w.cell? ⟨B, 1, none⟩ = some (.int .i64 (st : Int)) ∧ w.cell? ⟨B, 2, none⟩ = some (.int .i64 (nx : Int)) ∧ w.cell? ⟨B, 3, none⟩ = some (.int .i64 (bg : Int)) ∧ w.cell? ⟨B, 6, none⟩ = some (.int .i64 (ft : Int)) :=
  ⟨h.c0, h.c1, h.c2, h.c3, h.c6⟩
end Go.Proofs.Ytopokicdgdjgkaa
/- Declarations in memory: rows of rows, each in blocks of its own; the parser's nine cells. No program in sight. -/
namespace Go.Proofs.Ytopokicdgdjgkaa
open Go.RowKit

def itV (i : It) : List Value := [.int .i64 i.kind, .string i.text, .int .i64 i.lo, .int .i64 i.hi]
def itsV : List It → List Value
  | [] => []
  | i :: l => itV i ++ itsV l
theorem itsV_append : ∀ l m : List It, itsV (l ++ m) = itsV l ++ itsV m
  | [], _ => rfl
  | i :: l, m => by simp [itsV, itsV_append l m]
theorem itsV_length : ∀ l : List It, (itsV l).length = l.length * 4
  | [] => rfl
  | i :: l => by simp [itsV, itV, itsV_length l]; omega
theorem itsV_at : ∀ (l : List It) (k : Nat) (i : It), l[k]? = some i → (itsV l)[k * 4]? = some (.int .i64 i.kind) ∧ (itsV l)[k * 4 + 1]? = some (.string i.text) ∧ (itsV l)[k * 4 + 2]? = some (.int .i64 i.lo) ∧ (itsV l)[k * 4 + 3]? = some (.int .i64 i.hi)
  | [], k, i, h => by simp at h
  | q :: l, 0, i, h => by
    obtain rfl : q = i := by simpa using h
    exact ⟨rfl, rfl, rfl, rfl⟩
  | q :: l, k + 1, i, h => by
    have := itsV_at l k i (by simpa using h)
    rw [show (k + 1) * 4 = k * 4 + 1 + 1 + 1 + 1 by omega]
    simpa [itsV, itV] using this
def cjsV : List Cj → List Value → List Value
  | c :: l, v :: vs => .bool c.neg :: v :: cjsV l vs
  | _, _ => []
theorem cjsV_append : ∀ (l : List Cj) (vs : List Value) (c : Cj) (v : Value), vs.length = l.length → cjsV (l ++ [c]) (vs ++ [v]) = cjsV l vs ++ [.bool c.neg, v]
  | [], [], c, v, _ => rfl
  | [], _ :: _, _, _, h => by simp at h
  | _ :: _, [], _, _, h => by simp at h
  | d :: l, u :: vs, c, v, h => by
    show .bool d.neg :: u :: cjsV (l ++ [c]) (vs ++ [v]) = _
    rw [cjsV_append l vs c v (by simpa using h)]; rfl
theorem cjsV_length : ∀ (l : List Cj) (vs : List Value), vs.length = l.length → (cjsV l vs).length = l.length * 2
  | [], [], _ => rfl
  | [], _ :: _, h => by simp at h
  | _ :: _, [], h => by simp at h
  | d :: l, u :: vs, h => by
    show (_ :: _ :: cjsV l vs).length = _
    simp only [List.length_cons, cjsV_length l vs (by simpa using h)]; omega
theorem cjsV_at : ∀ (l : List Cj) (vs : List Value) (k : Nat) (c : Cj) (u : Value), l[k]? = some c → vs[k]? = some u → (cjsV l vs)[k * 2]? = some (.bool c.neg) ∧ (cjsV l vs)[k * 2 + 1]? = some u
  | [], _, k, c, u, h, _ => by simp at h
  | _ :: _, [], k, c, u, _, h => by simp at h
  | d :: l, v :: vs, 0, c, u, h, h' => by
    obtain rfl : d = c := by simpa using h
    obtain rfl : v = u := by simpa using h'
    exact ⟨rfl, rfl⟩
  | d :: l, v :: vs, k + 1, c, u, h, h' => by
    have := cjsV_at l vs k c u (by simpa using h) (by simpa using h')
    rw [show (k + 1) * 2 = k * 2 + 1 + 1 by omega]
    simpa [cjsV] using this
def dfsV : List Df → List Value → List Value
  | d :: l, v :: vs => .string d.name :: v :: dfsV l vs
  | _, _ => []
theorem dfsV_append : ∀ (l : List Df) (vs : List Value) (c : Df) (v : Value), vs.length = l.length → dfsV (l ++ [c]) (vs ++ [v]) = dfsV l vs ++ [.string c.name, v]
  | [], [], c, v, _ => rfl
  | [], _ :: _, _, _, h => by simp at h
  | _ :: _, [], _, _, h => by simp at h
  | d :: l, u :: vs, c, v, h => by
    show .string d.name :: u :: dfsV (l ++ [c]) (vs ++ [v]) = _
    rw [dfsV_append l vs c v (by simpa using h)]; rfl
theorem dfsV_length : ∀ (l : List Df) (vs : List Value), vs.length = l.length → (dfsV l vs).length = l.length * 2
  | [], [], _ => rfl
  | [], _ :: _, h => by simp at h
  | _ :: _, [], h => by simp at h
  | d :: l, u :: vs, h => by
    show (_ :: _ :: dfsV l vs).length = _
    simp only [List.length_cons, dfsV_length l vs (by simpa using h)]; omega
theorem dfsV_at : ∀ (l : List Df) (vs : List Value) (k : Nat) (c : Df) (u : Value), l[k]? = some c → vs[k]? = some u → (dfsV l vs)[k * 2]? = some (.string c.name) ∧ (dfsV l vs)[k * 2 + 1]? = some u
  | [], _, k, c, u, h, _ => by simp at h
  | _ :: _, [], k, c, u, _, h => by simp at h
  | d :: l, v :: vs, 0, c, u, h, h' => by
    obtain rfl : d = c := by simpa using h
    obtain rfl : v = u := by simpa using h'
    exact ⟨rfl, rfl⟩
  | d :: l, v :: vs, k + 1, c, u, h, h' => by
    have := dfsV_at l vs k c u (by simpa using h) (by simpa using h')
    rw [show (k + 1) * 2 = k * 2 + 1 + 1 by omega]
    simpa [dfsV] using this
def txV (l : List ByteArray) : List Value := l.map Value.string

/-- The blocks F are as they were. -/
structure Stay (F : Nat → Prop) (w w' : World) : Prop where
  size : w.heap.size ≤ w'.heap.size
  blk : ∀ b, F b → w'.heap[b]? = w.heap[b]?
theorem reas {w : World} {g o a b : Nat} {v : Value} (h : w.cell? ⟨g, o + (a + b), none⟩ = some v) : w.cell? ⟨g, o + a + b, none⟩ = some v := by rw [Nat.add_assoc]; exact h
/-- Slice v holds n elements, their cells cs, in a block of F. -/
def Reads (w : World) (F : Nat → Prop) (v : Value) (n : Nat) (cs : List Value) : Prop :=
  ∃ p cap, v = .slice p n cap ∧ (n ≤ maxLen ∧ n ≤ cap) ∧ (0 < n → ∃ g o, p = some ⟨g, o, none⟩ ∧ F g ∧ g < w.heap.size ∧ (∀ j c, cs[j]? = some c → w.cell? ⟨g, o + j, none⟩ = some c) ∧ ∀ j, j < (cs).length → w.frozen? ⟨g, o + j, none⟩ = false)
theorem Reads.keep {w w' : World} {F F' : Nat → Prop} {v : Value} {n : Nat} {cs : List Value} (h : Reads w F v n cs) (hs : Stay F w w') (hm : ∀ b, F b → F' b) : Reads w' F' v n cs := by
  obtain ⟨p, cap, hv, hmx, hc⟩ := h
  refine ⟨p, cap, hv, hmx, fun hn => ?_⟩
  obtain ⟨g, o, hp, hF, hg, hx, hz⟩ := hc hn
  exact ⟨g, o, hp, hm g hF, Nat.lt_of_lt_of_le hg hs.size, fun j c hj => (World.cell?_of_block (a := ⟨g, _, none⟩) (hs.blk g hF)).trans (hx j c hj), fun j hj => (World.frozen?_of_block (a := ⟨g, _, none⟩) (hs.blk g hF)).trans (hz j hj)⟩
theorem Reads.of {w : World} {F : Nat → Prop} {base e size n : Nat} {v : Value} {cs : List Value} (h : w.ownsRow base e size v n cs) (hF : ∀ b, v.ownBlock = some b → F b) : Reads w F v n cs := by
  obtain ⟨p, cap, hv⟩ := row_slice h
  subst hv
  have hmx : n ≤ maxLen ∧ n ≤ cap := by
    obtain ⟨_, ⟨_, h2⟩ | ⟨g, c', cur, h1, h2, h3, h4, h5, _⟩⟩ := id h
    · rw [h2]; exact ⟨Nat.zero_le _, Nat.zero_le _⟩
    · injection h1 with _ _ h1
      subst h1
      exact ⟨Nat.le_trans h4 h5, h4⟩
  refine ⟨p, cap, rfl, hmx, fun hn => ?_⟩
  obtain ⟨hl, ⟨_, h2⟩ | ⟨g, c', cur, h1, h2, h3⟩⟩ := id h
  · omega
  · injection h1 with e1
    subst e1
    refine ⟨g, 0, rfl, hF g rfl, (h.lt g rfl).2, fun j c hj => ?_, fun j _ => ?_⟩
    · have hlt : j < cs.length := (List.getElem?_eq_some_iff.1 hj).1
      rw [Nat.zero_add]; exact (h.cellAt j (by omega)).trans hj
    · simp [World.frozen?, h3.1]
def IsIts (w : World) (F : Nat → Prop) (v : Value) (l : List It) : Prop := Reads w F v l.length (itsV l)
def CjsIn (w : World) (F : Nat → Prop) (l : List Cj) (vs : List Value) : Prop := vs.length = l.length ∧ ∀ (k : Nat) (c : Cj) (u : Value), l[k]? = some c → vs[k]? = some u → IsIts w F u c.items
def IsCjs (w : World) (F : Nat → Prop) (v : Value) (l : List Cj) : Prop := ∃ vs, Reads w F v l.length (cjsV l vs) ∧ CjsIn w F l vs
def AltsIn (w : World) (F : Nat → Prop) (l : List (List Cj)) (vs : List Value) : Prop := vs.length = l.length ∧ ∀ (k : Nat) (a : List Cj) (u : Value), l[k]? = some a → vs[k]? = some u → IsCjs w F u a
def IsAlts (w : World) (F : Nat → Prop) (v : Value) (l : List (List Cj)) : Prop := ∃ vs, Reads w F v l.length vs ∧ AltsIn w F l vs
def DefsIn (w : World) (F : Nat → Prop) (l : List Df) (vs : List Value) : Prop := vs.length = l.length ∧ ∀ (k : Nat) (d : Df) (u : Value), l[k]? = some d → vs[k]? = some u → IsAlts w F u d.alts
def IsDefs (w : World) (F : Nat → Prop) (v : Value) (l : List Df) : Prop := ∃ vs, Reads w F v l.length (dfsV l vs) ∧ DefsIn w F l vs
def IsTexts (w : World) (F : Nat → Prop) (v : Value) (l : List ByteArray) : Prop := Reads w F v l.length (txV l)
section
variable {w w' : World} {F F' : Nat → Prop}
theorem IsIts.keep {v : Value} {l : List It} (h : IsIts w F v l) (hs : Stay F w w') (hm : ∀ b, F b → F' b) : IsIts w' F' v l := Reads.keep h hs hm
theorem CjsIn.keep {l : List Cj} {vs : List Value} (h : CjsIn w F l vs) (hs : Stay F w w') (hm : ∀ b, F b → F' b) : CjsIn w' F' l vs := ⟨h.1, fun k c u h1 h2 => (h.2 k c u h1 h2).keep hs hm⟩
theorem IsCjs.keep {v : Value} {l : List Cj} (h : IsCjs w F v l) (hs : Stay F w w') (hm : ∀ b, F b → F' b) : IsCjs w' F' v l := by
  obtain ⟨vs, h1, h2⟩ := h
  exact ⟨vs, h1.keep hs hm, h2.keep hs hm⟩
theorem AltsIn.keep {l : List (List Cj)} {vs : List Value} (h : AltsIn w F l vs) (hs : Stay F w w') (hm : ∀ b, F b → F' b) : AltsIn w' F' l vs := ⟨h.1, fun k c u h1 h2 => (h.2 k c u h1 h2).keep hs hm⟩
theorem IsAlts.keep {v : Value} {l : List (List Cj)} (h : IsAlts w F v l) (hs : Stay F w w') (hm : ∀ b, F b → F' b) : IsAlts w' F' v l := by
  obtain ⟨vs, h1, h2⟩ := h
  exact ⟨vs, h1.keep hs hm, h2.keep hs hm⟩
theorem DefsIn.keep {l : List Df} {vs : List Value} (h : DefsIn w F l vs) (hs : Stay F w w') (hm : ∀ b, F b → F' b) : DefsIn w' F' l vs := ⟨h.1, fun k c u h1 h2 => (h.2 k c u h1 h2).keep hs hm⟩
theorem IsDefs.keep {v : Value} {l : List Df} (h : IsDefs w F v l) (hs : Stay F w w') (hm : ∀ b, F b → F' b) : IsDefs w' F' v l := by
  obtain ⟨vs, h1, h2⟩ := h
  exact ⟨vs, h1.keep hs hm, h2.keep hs hm⟩
theorem IsTexts.keep {v : Value} {l : List ByteArray} (h : IsTexts w F v l) (hs : Stay F w w') (hm : ∀ b, F b → F' b) : IsTexts w' F' v l := Reads.keep h hs hm
end
theorem in_snoc {α : Type} {l : List α} {vs : List Value} {a : α} {v : Value} {P : α → Value → Prop} (hl : vs.length = l.length) (h : ∀ (k : Nat) (c : α) (u : Value), l[k]? = some c → vs[k]? = some u → P c u) (hp : P a v) :
    (vs ++ [v]).length = (l ++ [a]).length ∧ ∀ (k : Nat) (c : α) (u : Value), (l ++ [a])[k]? = some c → (vs ++ [v])[k]? = some u → P c u := by
  refine ⟨by simp [hl], fun k c u h1 h2 => ?_⟩
  by_cases e : k < l.length
  · rw [List.getElem?_append_left e] at h1
    rw [List.getElem?_append_left (by omega)] at h2
    exact h k c u h1 h2
  · rw [List.getElem?_append_right (by omega)] at h1
    rw [List.getElem?_append_right (by omega)] at h2
    have hk : k - l.length = 0 := by
      have := (List.getElem?_eq_some_iff.1 h1).1
      simp at this; omega
    rw [hk] at h1
    rw [show k - vs.length = 0 by omega] at h2
    obtain rfl : a = c := by simpa using h1
    obtain rfl : v = u := by simpa using h2
    exact hp

structure Px where
  vs : Value
  vd : Value
  va : Value
  vl : Value
  vi : Value
  dv : List Value
  av : List Value
  cv : List Value
section
variable {W w w' : World} {B : Nat} {F : Nat → Prop} {p : Pm} {x : Px}
theorem row_out {e size n : Nat} {v : Value} {cs : List Value} (o : w.ownsRow (B + 1) e size v n cs) (hn : ∀ b, v.ownBlock = some b → ¬ F b) : ∀ b, v.ownBlock = some b → B < b ∧ ¬ F b := fun b hb => ⟨by have := (o.lt b hb).1; omega, hn b hb⟩
end
end Go.Proofs.Ytopokicdgdjgkaa
