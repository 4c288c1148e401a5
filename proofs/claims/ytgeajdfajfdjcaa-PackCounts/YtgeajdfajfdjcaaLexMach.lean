/- A reader of tokens byte by byte, as a machine: each of its steps leaves what is yet to be told as it is. No program in sight. -/
import Derived.Test.YtgeajdfajfdjcaaLexTok
namespace Go.Proofs.Ytgeajdfajfdjcaa

/-- What a piece bears besides: nothing, a text, two ends. -/
abbrev Pay := Option (ByteArray ⊕ Int × Int)
abbrev Pay.no : Pay := none
abbrev Pay.str (t : ByteArray) : Pay := some (.inl t)
abbrev Pay.ends (lo hi : Int) : Pay := some (.inr (lo, hi))
structure Pc where
  kind : Nat
  pl : Nat
  pay : Pay
def Pc.tok (p : Pc) : Tok := match p.pay with
  | none => ⟨p.kind, p.pl, ⟨#[]⟩, 0, 0⟩
  | some (.inl t) => ⟨p.kind, p.pl, t, 0, 0⟩
  | some (.inr (a, c)) => ⟨p.kind, p.pl, ⟨#[]⟩, a, c⟩
def Pc.fit (p : Pc) : Prop := match p.pay with
  | none => 3 ≤ p.kind ∧ p.kind ≤ 8
  | some (.inl _) => p.kind ≤ 1
  | some (.inr _) => p.kind = 2
structure Mc where
  st : Nat
  nx : Nat
  bg : Nat
  rd : List Int
  ps : List Pc
  ft : Nat

def tail2 (b : Nat → Int) (n nx bg : Nat) (rd : List Int) : Res :=
  if 32 < rd.length + (nameE b n nx - nx) then .error (bg, 201) else Res.cons (nameT bg (rd ++ cut b nx (nameE b n nx))) (lexK b n (nameE b n nx))
def tail3 (b : Nat → Int) (n nx bg : Nat) (rd : List Int) : Res := match textF b n nx rd with
  | none => .error (bg, 201)
  | some (l, to) => Res.cons ⟨1, bg, strOf l, 0, 0⟩ (lexK b n to)
def side1 (b : Nat → Int) (n nx bg : Nat) (a : Int) : Res := match half b n nx with
  | none => .error (bg, 201)
  | some (c, to) => Res.cons ⟨2, bg, ⟨#[]⟩, a, c⟩ (lexK b n to)
def side0 (b : Nat → Int) (n nx bg : Nat) : Res := match half b n nx with
  | none => .error (bg, 201)
  | some (c, to) => if dots b n to then (if n ≤ to + 2 ∨ b (to + 2) ≠ 39 then .error (bg, 201) else side1 b n (to + 3) bg c) else Res.cons ⟨2, bg, ⟨#[]⟩, c, c⟩ (lexK b n to)
def tail4 (b : Nat → Int) (n nx bg : Nat) : List Int → Res
  | [] => side0 b n nx bg
  | a :: _ => side1 b n nx bg a
def tailF (b : Nat → Int) (n nx bg : Nat) (rd : List Int) (ft : Nat) : Nat → Res
  | 0 => lexK b n nx
  | 1 => lexA b n (skp b n true nx)
  | 2 => tail2 b n nx bg rd
  | 3 => tail3 b n nx bg rd
  | 4 => tail4 b n nx bg rd
  | _ => if ft = 0 then .ok [] else .error (bg, ft)
def resume (b : Nat → Int) (n : Nat) (m : Mc) : Res := Res.pre (m.ps.map Pc.tok) (tailF b n m.nx m.bg m.rd m.ft m.st)

def rank (b : Nat → Int) (n nx : Nat) : Nat → Nat
  | 0 => if nx < n ∧ (b nx = 35 ∨ letB (b nx) = true) then 2 else 1
  | 1 => if nx < n ∧ b nx ≠ 10 then 1 else 2
  | 2 => if nx < n ∧ (letB (b nx) || digB (b nx)) = true then 1 else 3
  | 3 => 1
  | 4 => 1
  | _ => 0
def mu (b : Nat → Int) (n st nx : Nat) : Nat := 4 * (n - nx) + rank b n nx st
theorem rank_le (b : Nat → Int) (n nx st : Nat) : rank b n nx st ≤ 3 := by
  unfold rank
  split <;> (try split) <;> omega
theorem mu_on {b : Nat → Int} {n st nx st' nx' : Nat} (h : nx < nx') (hn : nx' ≤ n) : mu b n st' nx' < mu b n st nx := by
  unfold mu
  have := rank_le b n nx' st'
  omega
theorem rank_ge {b : Nat → Int} {n nx st : Nat} (h : st ≤ 4) : 1 ≤ rank b n nx st := by
  unfold rank
  match st, h with
  | 0, _ => show 1 ≤ (if _ then _ else _); split <;> omega
  | 1, _ => show 1 ≤ (if _ then _ else _); split <;> omega
  | 2, _ => show 1 ≤ (if _ then _ else _); split <;> omega
  | 3, _ => exact Nat.le_refl _
  | 4, _ => exact Nat.le_refl _

structure Good (b : Nat → Int) (n : Nat) (m : Mc) : Prop where
  nx : m.nx ≤ n
  st : m.st ≤ 5
  ft : m.st ≠ 5 → m.ft = 0
  fl : m.ft ≤ 201
  ps : ∀ p, p ∈ m.ps → p.fit
  bg : m.bg ≤ n
  pl : m.ps.length ≤ m.nx
  pb : 2 ≤ m.st → m.st ≤ 4 → m.ps.length ≤ m.bg ∧ m.bg ≤ m.nx
  rd : m.rd.length ≤ m.nx
  s2 : m.st = 2 → m.rd.length ≤ 32 ∧ (m.bg < m.nx ∨ (m.nx < n ∧ letB (b m.nx) = true))
  s3 : m.st = 3 → m.bg < m.nx
  s4 : m.st = 4 → m.rd.length ≤ 1 ∧ m.bg < m.nx ∧ ∀ c, c ∈ m.rd → 0 ≤ c ∧ c ≤ 255

def Adv (b : Nat → Int) (n : Nat) (m m' : Mc) : Prop := resume b n m' = resume b n m ∧ mu b n m'.st m'.nx < mu b n m.st m.nx ∧ Good b n m'

section
variable {b : Nat → Int} {n nx bg ft : Nat} {rd : List Int} {ps : List Pc}

theorem skp_here (h : nx < n) (h1 : b nx ≠ 35) (h2 : ¬ (b nx = 9 ∨ b nx = 10 ∨ b nx = 13 ∨ b nx = 32)) : skp b n false nx = nx := by rw [skp_false _ _ _ h, if_neg h1, if_neg h2]
theorem letB_not {c : Int} (h : letB c = true) : c ≠ 35 ∧ ¬ (c = 9 ∨ c = 10 ∨ c = 13 ∨ c = 32) ∧ c ≠ 10 := by
  simp [letB] at h; omega

theorem adv_end (g : Good b n ⟨0, nx, bg, rd, ps, ft⟩) (h : nx = n) : Adv b n ⟨0, nx, bg, rd, ps, ft⟩ ⟨5, nx, nx, [], ps, ft⟩ := by
  have h0 : ft = 0 := g.ft (by dsimp only; decide)
  subst h h0
  refine ⟨?_, ?_, ⟨g.nx, by dsimp only; decide, fun h => absurd rfl h, by dsimp only; decide, g.ps, g.nx, g.pl, fun _ h => by simp at h, by simp, fun h => by simp at h, fun h => by simp at h, fun h => by simp at h⟩⟩
  · show Res.pre _ (Except.ok []) = Res.pre _ (lexK b nx nx)
    rw [lexK_eq _ _ _ (Nat.le_refl _), skp_end _ _ _ _ (Nat.le_refl _), lexA, if_pos (Nat.le_refl _)]
  · have := @rank_ge b nx nx 0 (by decide)
    show 4 * (nx - nx) + 0 < 4 * (nx - nx) + rank b nx nx 0
    omega

theorem adv_blank (g : Good b n ⟨0, nx, bg, rd, ps, ft⟩) (h : nx < n) (hb : b nx = 9 ∨ b nx = 10 ∨ b nx = 13 ∨ b nx = 32) : Adv b n ⟨0, nx, bg, rd, ps, ft⟩ ⟨0, nx + 1, nx, [], ps, ft⟩ := by
  have := g.pl
  simp at this
  refine ⟨?_, (by dsimp only; exact mu_on (Nat.lt_succ_self _) h), ⟨h, by simp, g.ft, g.fl, g.ps, by show nx ≤ n; omega, by show ps.length ≤ nx + 1; omega, fun h => by simp at h, by simp, fun h => by simp at h, fun h => by simp at h, fun h => by simp at h⟩⟩
  show Res.pre _ (lexK b n (nx + 1)) = Res.pre _ (lexK b n nx)
  rw [lexK_eq _ _ _ (by omega), lexK_eq _ _ nx (by omega), skp_false _ _ nx h, if_neg (by omega), if_pos hb]

theorem adv_hash (g : Good b n ⟨0, nx, bg, rd, ps, ft⟩) (h : nx < n) (hb : b nx = 35) : Adv b n ⟨0, nx, bg, rd, ps, ft⟩ ⟨1, nx, nx, [], ps, ft⟩ := by
  refine ⟨?_, ?_, ⟨g.nx, by dsimp only; decide, fun _ => g.ft (by dsimp only; decide), g.fl, g.ps, g.nx, g.pl, fun h => by simp at h, by simp, fun h => by simp at h, fun h => by simp at h, fun h => by simp at h⟩⟩
  · show Res.pre _ (lexA b n (skp b n true nx)) = Res.pre _ (lexK b n nx)
    rw [lexK_eq _ _ nx (by omega), skp_false _ _ nx h, if_pos hb, skp_true _ _ nx h, if_neg (by omega)]
  · show 4 * (n - nx) + rank b n nx 1 < 4 * (n - nx) + rank b n nx 0
    rw [show rank b n nx 1 = 1 from if_pos ⟨h, by omega⟩, show rank b n nx 0 = 2 from if_pos ⟨h, Or.inl hb⟩]; omega

theorem lexK_here (h : nx < n) (h1 : b nx ≠ 35) (h2 : ¬ (b nx = 9 ∨ b nx = 10 ∨ b nx = 13 ∨ b nx = 32)) : lexK b n nx = match tokF b n nx with
    | .ok (t, to) => Res.cons t (lexK b n to)
    | .error true => .error (nx, 201)
    | .error false => .error (nx, 200) := by
  rw [lexK_eq _ _ nx (by omega), skp_here h h1 h2, lexA, if_neg (by omega)]
  rcases tokF b n nx with (_ | _) | ⟨t, to⟩ <;> rfl

theorem adv_letter (g : Good b n ⟨0, nx, bg, rd, ps, ft⟩) (h : nx < n) (hb : letB (b nx) = true) : Adv b n ⟨0, nx, bg, rd, ps, ft⟩ ⟨2, nx, nx, [], ps, ft⟩ := by
  obtain ⟨l1, l2, l3⟩ := letB_not hb
  refine ⟨?_, ?_, ⟨g.nx, by dsimp only; decide, fun _ => g.ft (by dsimp only; decide), g.fl, g.ps, g.nx, g.pl, fun _ _ => ⟨g.pl, Nat.le_refl _⟩, by simp, fun _ => ⟨by simp, Or.inr ⟨h, hb⟩⟩, fun h => by simp at h, fun h => by simp at h⟩⟩
  · show Res.pre _ (tail2 b n nx nx []) = Res.pre _ (lexK b n nx)
    rw [lexK_here h l1 l2, tokF, if_pos hb, nameG, tail2]
    simp only [List.length_nil, Nat.zero_add, List.nil_append]
    by_cases h32 : 32 < nameE b n nx - nx
    · rw [if_pos h32, if_pos h32]
    · rw [if_neg h32, if_neg h32]
  · show 4 * (n - nx) + rank b n nx 2 < 4 * (n - nx) + rank b n nx 0
    rw [show rank b n nx 2 = 1 from if_pos ⟨h, by rw [hb]; rfl⟩, show rank b n nx 0 = 2 from if_pos ⟨h, Or.inr hb⟩]; omega

theorem adv_quote (g : Good b n ⟨0, nx, bg, rd, ps, ft⟩) (h : nx < n) (hb : b nx = 34) : Adv b n ⟨0, nx, bg, rd, ps, ft⟩ ⟨3, nx + 1, nx, [], ps, ft⟩ := by
  have hp := g.pl
  simp at hp
  have hl : letB (b nx) = false := by rw [hb]; rfl
  refine ⟨?_, (by dsimp only; exact mu_on (Nat.lt_succ_self _) h), ⟨h, by dsimp only; decide, fun _ => g.ft (by dsimp only; decide), g.fl, g.ps, by show nx ≤ n; omega, by show ps.length ≤ nx + 1; omega, fun _ _ => ⟨hp, Nat.le_succ _⟩, by simp, fun h => by simp at h, fun _ => Nat.lt_succ_self _, fun h => by simp at h⟩⟩
  show Res.pre _ (tail3 b n (nx + 1) nx []) = Res.pre _ (lexK b n nx)
  rw [lexK_here h (by omega) (by omega), tokF, if_neg (by rw [hl]; simp), if_pos hb, textG, tail3]
  cases textF b n (nx + 1) [] with
  | none => rfl
  | some x => rfl

theorem side0_range : side0 b n (nx + 1) nx = match rangeG b n nx with
    | .ok (t, to) => Res.cons t (lexK b n to)
    | .error true => .error (nx, 201)
    | .error false => .error (nx, 200) := by
  unfold side0 rangeG rangeF
  cases half b n (nx + 1) with
  | none => rfl
  | some x =>
    obtain ⟨c, to⟩ := x
    show (if _ then _ else _) = _
    by_cases hd : dots b n to
    · rw [if_pos hd]
      simp only [if_pos hd, oneF_half]
      by_cases hq : n ≤ to + 2 ∨ b (to + 2) ≠ 39
      · rw [if_pos hq, if_pos hq]
      · rw [if_neg hq, if_neg hq, side1]
        cases half b n (to + 3) with
        | none => rfl
        | some x => rfl
    · rw [if_neg hd]
      simp only [if_neg hd]

theorem adv_apos (g : Good b n ⟨0, nx, bg, rd, ps, ft⟩) (h : nx < n) (hb : b nx = 39) : Adv b n ⟨0, nx, bg, rd, ps, ft⟩ ⟨4, nx + 1, nx, [], ps, ft⟩ := by
  have hp := g.pl
  simp at hp
  have hl : letB (b nx) = false := by rw [hb]; rfl
  refine ⟨?_, (by dsimp only; exact mu_on (Nat.lt_succ_self _) h), ⟨h, by dsimp only; decide, fun _ => g.ft (by dsimp only; decide), g.fl, g.ps, by show nx ≤ n; omega, by show ps.length ≤ nx + 1; omega, fun _ _ => ⟨hp, Nat.le_succ _⟩, by simp, fun h => by simp at h, fun h => by simp at h, fun _ => ⟨by simp, Nat.lt_succ_self _, fun c h => by simp at h⟩⟩⟩
  show Res.pre _ (side0 b n (nx + 1) nx) = Res.pre _ (lexK b n nx)
  rw [lexK_here h (by omega) (by omega), tokF, if_neg (by rw [hl]; simp), if_neg (by omega), if_pos hb, side0_range]

theorem fit_add {p : Pc} (hf : p.fit) (h : ∀ p, p ∈ ps → p.fit) : ∀ q, q ∈ ps ++ [p] → q.fit := fun q hq => by
  rcases List.mem_append.1 hq with h' | h'
  · exact h q h'
  · rw [List.mem_singleton.1 h']; exact hf
theorem markF_le (c : Int) : 0 < markF c → 4 ≤ markF c ∧ markF c ≤ 8 := by
  unfold markF; repeat' split
  all_goals omega
theorem pre_push (p : Pc) (r : Res) : Res.pre ((ps ++ [p]).map Pc.tok) r = Res.pre (ps.map Pc.tok) (Res.cons p.tok r) := by
  rw [Res.pre_cons, List.map_append]; rfl

theorem adv_mark (g : Good b n ⟨0, nx, bg, rd, ps, ft⟩) (h : nx < n) (h0 : ¬ (b nx = 9 ∨ b nx = 10 ∨ b nx = 13 ∨ b nx = 32)) (h1 : b nx ≠ 35) (hl : letB (b nx) = false) (h2 : b nx ≠ 34) (h3 : b nx ≠ 39) (k : Nat) (hk : markF (b nx) = (k : Int)) (hm : 0 < k) :
    Adv b n ⟨0, nx, bg, rd, ps, ft⟩ ⟨0, nx + 1, nx, [], ps ++ [⟨k, nx, .no⟩], ft⟩ := by
  have hp := g.pl
  simp at hp
  have h8 := markF_le (b nx) (by omega)
  refine ⟨?_, (by dsimp only; exact mu_on (Nat.lt_succ_self _) h), ⟨h, by dsimp only; decide, fun _ => g.ft (by dsimp only; decide), g.fl, fit_add ⟨by show 3 ≤ k; omega, by show k ≤ 8; omega⟩ g.ps, by show nx ≤ n; omega, by simp; omega, fun h => by simp at h, by simp, fun h => by simp at h, fun h => by simp at h, fun h => by simp at h⟩⟩
  show Res.pre _ (lexK b n (nx + 1)) = Res.pre _ (lexK b n nx)
  rw [lexK_here h h1 h0, tokF, if_neg (by rw [hl]; simp), if_neg h2, if_neg h3, if_pos (by omega), pre_push, hk]
  rfl

theorem adv_byte (g : Good b n ⟨0, nx, bg, rd, ps, ft⟩) (h : nx < n) (h0 : ¬ (b nx = 9 ∨ b nx = 10 ∨ b nx = 13 ∨ b nx = 32)) (h1 : b nx ≠ 35) (hl : letB (b nx) = false) (h2 : b nx ≠ 34) (h3 : b nx ≠ 39) (hk : markF (b nx) = 0) :
    Adv b n ⟨0, nx, bg, rd, ps, ft⟩ ⟨5, nx, nx, [], ps, 200⟩ := by
  refine ⟨?_, ?_, ⟨g.nx, by dsimp only; decide, fun h => absurd rfl h, by dsimp only; decide, g.ps, g.nx, g.pl, fun _ h => by simp at h, by simp, fun h => by simp at h, fun h => by simp at h, fun h => by simp at h⟩⟩
  · show Res.pre _ (Except.error (nx, 200)) = Res.pre _ (lexK b n nx)
    rw [lexK_here h h1 h0, tokF, if_neg (by rw [hl]; simp), if_neg h2, if_neg h3, if_neg (by omega)]
  · have := @rank_ge b n nx 0 (by decide)
    show 4 * (n - nx) + 0 < 4 * (n - nx) + rank b n nx 0
    omega

theorem adv_line (g : Good b n ⟨1, nx, bg, rd, ps, ft⟩) (h : nx = n ∨ b nx = 10) : Adv b n ⟨1, nx, bg, rd, ps, ft⟩ ⟨0, nx, bg, rd, ps, ft⟩ := by
  have hn : nx ≤ n := g.nx
  refine ⟨?_, ?_, ⟨g.nx, by show 0 ≤ 5; decide, fun _ => g.ft (by show 1 ≠ 5; decide), g.fl, g.ps, g.bg, g.pl, fun h => by simp at h, g.rd, fun h => by simp at h, fun h => by simp at h, fun h => by simp at h⟩⟩
  · show Res.pre _ (lexK b n nx) = Res.pre _ (lexA b n (skp b n true nx))
    rw [lexK_eq _ _ nx hn]
    by_cases e : nx = n
    · rw [skp_end _ _ _ _ (by omega), skp_end _ _ _ _ (by omega)]
    · have hb : b nx = 10 := by omega
      rw [skp_false _ _ nx (by omega), if_neg (by omega), if_pos (by omega), skp_true _ _ nx (by omega), if_pos hb]
  · show 4 * (n - nx) + rank b n nx 0 < 4 * (n - nx) + rank b n nx 1
    rw [show rank b n nx 1 = 2 from if_neg (by omega), show rank b n nx 0 = 1 from if_neg ?_]
    · omega
    · rintro ⟨h1, h2⟩
      have hb : b nx = 10 := by omega
      rw [hb] at h2
      rcases h2 with h2 | h2
      · omega
      · exact absurd h2 (by decide)

theorem adv_comment (g : Good b n ⟨1, nx, bg, rd, ps, ft⟩) (h : nx < n) (hb : b nx ≠ 10) : Adv b n ⟨1, nx, bg, rd, ps, ft⟩ ⟨1, nx + 1, bg, rd, ps, ft⟩ := by
  have hp := g.pl
  have hr := g.rd
  simp at hp hr
  refine ⟨?_, (by dsimp only; exact mu_on (Nat.lt_succ_self _) h), ⟨h, by show 1 ≤ 5; decide, fun _ => g.ft (by show 1 ≠ 5; decide), g.fl, g.ps, g.bg, by simp; omega, fun h => by simp at h, by simp; omega, fun h => by simp at h, fun h => by simp at h, fun h => by simp at h⟩⟩
  show Res.pre _ (lexA b n (skp b n true (nx + 1))) = Res.pre _ (lexA b n (skp b n true nx))
  rw [skp_true _ _ nx h, if_neg hb]

theorem adv_long (g : Good b n ⟨2, nx, bg, rd, ps, ft⟩) (h : nx < n) (hb : (letB (b nx) || digB (b nx)) = true) (hl : rd.length = 32) : Adv b n ⟨2, nx, bg, rd, ps, ft⟩ ⟨5, nx, bg, rd, ps, 201⟩ := by
  refine ⟨?_, ?_, ⟨g.nx, by show 5 ≤ 5; decide, fun h => absurd rfl h, by dsimp only; decide, g.ps, g.bg, g.pl, fun _ h => by simp at h, g.rd, fun h => by simp at h, fun h => by simp at h, fun h => by simp at h⟩⟩
  · show Res.pre _ (Except.error (bg, 201)) = Res.pre _ (tail2 b n nx bg rd)
    have := nameE_ge b n (nx + 1)
    rw [tail2, nameE_in b n nx h hb, if_pos (by omega)]
  · have := @rank_ge b n nx 2 (by decide)
    show 4 * (n - nx) + 0 < 4 * (n - nx) + rank b n nx 2
    omega

theorem adv_in (g : Good b n ⟨2, nx, bg, rd, ps, ft⟩) (h : nx < n) (hb : (letB (b nx) || digB (b nx)) = true) (hl : rd.length ≠ 32) : Adv b n ⟨2, nx, bg, rd, ps, ft⟩ ⟨2, nx + 1, bg, rd ++ [b nx], ps, ft⟩ := by
  have hp := g.pl
  have hr := g.rd
  obtain ⟨hl2, hb2⟩ := g.s2 rfl
  obtain ⟨hp1, hp2⟩ := g.pb (by show 2 ≤ 2; decide) (by show 2 ≤ 4; decide)
  simp at hp hr hl2 hp1 hp2
  refine ⟨?_, ?_, ⟨h, by show 2 ≤ 5; decide, fun _ => g.ft (by show 2 ≠ 5; decide), g.fl, g.ps, g.bg, by simp; omega, fun _ _ => ⟨hp1, by simp; omega⟩, by simp; omega, fun _ => ⟨by simp; omega, Or.inl (by simp; omega)⟩, fun h => by simp at h, fun h => by simp at h⟩⟩
  · show Res.pre _ (tail2 b n (nx + 1) bg (rd ++ [b nx])) = Res.pre _ (tail2 b n nx bg rd)
    have hge := nameE_ge b n (nx + 1)
    rw [tail2, tail2, nameE_in b n nx h hb, cut_cons b nx _ (by omega)]
    simp only [List.length_append, List.length_singleton, List.append_assoc, List.singleton_append]
    rw [show rd.length + 1 + (nameE b n (nx + 1) - (nx + 1)) = rd.length + (nameE b n (nx + 1) - nx) by omega]
  · (dsimp only; exact mu_on (Nat.lt_succ_self _) h)

theorem adv_shut (g : Good b n ⟨2, nx, bg, rd, ps, ft⟩) (h : nx = n ∨ (letB (b nx) || digB (b nx)) = false) (p : Pc) (hp : p = if isStart rd = true then ⟨3, bg, .no⟩ else ⟨0, bg, .str (strOf rd)⟩) : Adv b n ⟨2, nx, bg, rd, ps, ft⟩ ⟨0, nx, bg, rd, ps ++ [p], ft⟩ := by
  obtain ⟨hl2, hb2⟩ := g.s2 rfl
  obtain ⟨hp1, hp2⟩ := g.pb (by show 2 ≤ 2; decide) (by show 2 ≤ 4; decide)
  have hn : nx ≤ n := g.nx
  simp at hl2 hb2 hp1 hp2
  have hlt : bg < nx := by
    rcases hb2 with h1 | ⟨h1, h2⟩
    · exact h1
    · rcases h with h3 | h3
      · omega
      · rw [h2] at h3; simp at h3
  have hfit : p.fit := by rw [hp]; split <;> simp [Pc.fit]
  have hne : nameE b n nx = nx := by
    by_cases e : nx = n
    · exact nameE_end _ _ _ (by omega)
    · rcases h with h | h
      · omega
      · exact nameE_out _ _ _ (by omega) h
  refine ⟨?_, ?_, ⟨g.nx, by show 0 ≤ 5; decide, fun _ => g.ft (by show 2 ≠ 5; decide), g.fl, fit_add hfit g.ps, g.bg, by simp; omega, fun h => by simp at h, g.rd, fun h => by simp at h, fun h => by simp at h, fun h => by simp at h⟩⟩
  · show Res.pre _ (lexK b n nx) = Res.pre _ (tail2 b n nx bg rd)
    rw [tail2, hne, if_neg (by omega), cut_nil, List.append_nil, pre_push]
    congr 2
    rw [hp, nameT]
    by_cases e : isStart rd = true
    · rw [if_pos e, if_pos e]; rfl
    · rw [if_neg e, if_neg e]; rfl
  · show 4 * (n - nx) + rank b n nx 0 < 4 * (n - nx) + rank b n nx 2
    have h0 : rank b n nx 0 ≤ 2 := by show (if _ then _ else _) ≤ 2; split <;> omega
    rw [show rank b n nx 2 = 3 from if_neg ?_]
    · omega
    · rintro ⟨h1, h2⟩
      rcases h with h3 | h3
      · omega
      · rw [h2] at h3; cases h3

theorem adv_textEnd (g : Good b n ⟨3, nx, bg, rd, ps, ft⟩) (h : nx < n) (hb : b nx = 34) : Adv b n ⟨3, nx, bg, rd, ps, ft⟩ ⟨0, nx + 1, bg, rd, ps ++ [⟨1, bg, .str (strOf rd)⟩], ft⟩ := by
  obtain ⟨hp1, hp2⟩ := g.pb (by show 2 ≤ 3; decide) (by show 3 ≤ 4; decide)
  have hr := g.rd
  simp at hp1 hp2 hr
  refine ⟨?_, (by dsimp only; exact mu_on (Nat.lt_succ_self _) h), ⟨h, by show 0 ≤ 5; decide, fun _ => g.ft (by show 3 ≠ 5; decide), g.fl, fit_add (by show 1 ≤ 1; decide) g.ps, g.bg, by simp; omega, fun h => by simp at h, by simp; omega, fun h => by simp at h, fun h => by simp at h, fun h => by simp at h⟩⟩
  show Res.pre _ (lexK b n (nx + 1)) = Res.pre _ (tail3 b n nx bg rd)
  rw [tail3, textF_eq _ _ _ _ (by omega), if_pos ⟨h, hb⟩, pre_push]
  rfl

theorem adv_textBad (g : Good b n ⟨3, nx, bg, rd, ps, ft⟩) (hb : ¬ (nx < n ∧ b nx = 34)) (hs : signF b n nx 34 = none) : Adv b n ⟨3, nx, bg, rd, ps, ft⟩ ⟨5, nx, bg, rd, ps, 201⟩ := by
  have hn : nx ≤ n := g.nx
  refine ⟨?_, ?_, ⟨g.nx, by show 5 ≤ 5; decide, fun h => absurd rfl h, by dsimp only; decide, g.ps, g.bg, g.pl, fun _ h => by simp at h, g.rd, fun h => by simp at h, fun h => by simp at h, fun h => by simp at h⟩⟩
  · show Res.pre _ (Except.error (bg, 201)) = Res.pre _ (tail3 b n nx bg rd)
    rw [tail3, textF_eq _ _ _ _ hn, if_neg hb, hs]
  · show 4 * (n - nx) + 0 < 4 * (n - nx) + 1
    omega

theorem adv_text (g : Good b n ⟨3, nx, bg, rd, ps, ft⟩) (hb : ¬ (nx < n ∧ b nx = 34)) {c : Int} {to : Nat} (hs : signF b n nx 34 = some (c, to)) : Adv b n ⟨3, nx, bg, rd, ps, ft⟩ ⟨3, to, bg, rd ++ [c], ps, ft⟩ := by
  obtain ⟨h1, h2⟩ := signF_to hs
  obtain ⟨hp1, hp2⟩ := g.pb (by show 2 ≤ 3; decide) (by show 3 ≤ 4; decide)
  have hr := g.rd
  have hn : nx ≤ n := g.nx
  simp at hp1 hp2 hr
  refine ⟨?_, (by dsimp only; exact mu_on h1 h2), ⟨h2, by show 3 ≤ 5; decide, fun _ => g.ft (by show 3 ≠ 5; decide), g.fl, g.ps, g.bg, by simp; omega, fun _ _ => ⟨hp1, by simp; omega⟩, by simp; omega, fun h => by simp at h, fun _ => by simp; omega, fun h => by simp at h⟩⟩
  show Res.pre _ (tail3 b n to bg (rd ++ [c])) = Res.pre _ (tail3 b n nx bg rd)
  rw [tail3, tail3, textF_eq b n nx rd hn, if_neg hb, hs]

theorem adv_sideBad (g : Good b n ⟨4, nx, bg, rd, ps, ft⟩) (hs : half b n nx = none) : Adv b n ⟨4, nx, bg, rd, ps, ft⟩ ⟨5, nx, bg, rd, ps, 201⟩ := by
  refine ⟨?_, ?_, ⟨g.nx, by show 5 ≤ 5; decide, fun h => absurd rfl h, by dsimp only; decide, g.ps, g.bg, g.pl, fun _ h => by simp at h, g.rd, fun h => by simp at h, fun h => by simp at h, fun h => by simp at h⟩⟩
  · show Res.pre _ (Except.error (bg, 201)) = Res.pre _ (tail4 b n nx bg rd)
    cases rd with
    | nil => rw [tail4, side0, hs]
    | cons a l => rw [tail4, side1, hs]
  · show 4 * (n - nx) + 0 < 4 * (n - nx) + 1
    omega

theorem adv_sideTwo {a : Int} (g : Good b n ⟨4, nx, bg, [a], ps, ft⟩) {c : Int} {to : Nat} (hs : half b n nx = some (c, to)) : Adv b n ⟨4, nx, bg, [a], ps, ft⟩ ⟨0, to, bg, [a] ++ [c], ps ++ [⟨2, bg, .ends a c⟩], ft⟩ := by
  obtain ⟨h1, h2⟩ := half_to hs
  obtain ⟨hp1, hp2⟩ := g.pb (by show 2 ≤ 4; decide) (by show 4 ≤ 4; decide)
  simp at hp1 hp2
  refine ⟨?_, (by dsimp only; exact mu_on (by omega) h2), ⟨h2, by show 0 ≤ 5; decide, fun _ => g.ft (by show 4 ≠ 5; decide), g.fl, fit_add (by show 2 = 2; rfl) g.ps, g.bg, by simp; omega, fun h => by simp at h, by simp; omega, fun h => by simp at h, fun h => by simp at h, fun h => by simp at h⟩⟩
  show Res.pre _ (lexK b n to) = Res.pre _ (side1 b n nx bg a)
  rw [side1, hs, pre_push]
  rfl

theorem adv_sideOne (g : Good b n ⟨4, nx, bg, [], ps, ft⟩) {c : Int} {to : Nat} (hs : half b n nx = some (c, to)) (hd : ¬ dots b n to) : Adv b n ⟨4, nx, bg, [], ps, ft⟩ ⟨0, to, bg, [] ++ [c], ps ++ [⟨2, bg, .ends c c⟩], ft⟩ := by
  obtain ⟨h1, h2⟩ := half_to hs
  obtain ⟨hp1, hp2⟩ := g.pb (by show 2 ≤ 4; decide) (by show 4 ≤ 4; decide)
  simp at hp1 hp2
  refine ⟨?_, (by dsimp only; exact mu_on (by omega) h2), ⟨h2, by show 0 ≤ 5; decide, fun _ => g.ft (by show 4 ≠ 5; decide), g.fl, fit_add (by show 2 = 2; rfl) g.ps, g.bg, by simp; omega, fun h => by simp at h, by simp; omega, fun h => by simp at h, fun h => by simp at h, fun h => by simp at h⟩⟩
  show Res.pre _ (lexK b n to) = Res.pre _ (side0 b n nx bg)
  rw [side0, hs, pre_push]
  show _ = Res.pre _ (if dots b n to then _ else _)
  rw [if_neg hd]
  rfl

theorem adv_sideNo (g : Good b n ⟨4, nx, bg, [], ps, ft⟩) {c : Int} {to : Nat} (hs : half b n nx = some (c, to)) (hd : dots b n to) (hq : n ≤ to + 2 ∨ b (to + 2) ≠ 39) : Adv b n ⟨4, nx, bg, [], ps, ft⟩ ⟨5, to, bg, [] ++ [c], ps, 201⟩ := by
  obtain ⟨h1, h2⟩ := half_to hs
  have hp := g.pl
  simp at hp
  refine ⟨?_, (by dsimp only; exact mu_on (by omega) h2), ⟨h2, by show 5 ≤ 5; decide, fun h => absurd rfl h, by dsimp only; decide, g.ps, g.bg, by simp; omega, fun _ h => by simp at h, by simp; omega, fun h => by simp at h, fun h => by simp at h, fun h => by simp at h⟩⟩
  show Res.pre _ (Except.error (bg, 201)) = Res.pre _ (side0 b n nx bg)
  rw [side0, hs]
  show _ = Res.pre _ (if dots b n to then (if _ then _ else _) else _)
  rw [if_pos hd, if_pos hq]

theorem adv_side (g : Good b n ⟨4, nx, bg, [], ps, ft⟩) {c : Int} {to : Nat} (hs : half b n nx = some (c, to)) (hd : dots b n to) (hq : ¬ (n ≤ to + 2 ∨ b (to + 2) ≠ 39)) (hc : 0 ≤ c ∧ c ≤ 255) : Adv b n ⟨4, nx, bg, [], ps, ft⟩ ⟨4, to + 3, bg, [] ++ [c], ps, ft⟩ := by
  obtain ⟨h1, h2⟩ := half_to hs
  obtain ⟨hp1, hp2⟩ := g.pb (by show 2 ≤ 4; decide) (by show 4 ≤ 4; decide)
  simp at hp1 hp2
  refine ⟨?_, (by dsimp only; exact mu_on (by omega) (by omega)), ⟨by show to + 3 ≤ n; omega, by show 4 ≤ 5; decide, fun _ => g.ft (by show 4 ≠ 5; decide), g.fl, g.ps, g.bg, by simp; omega, fun _ _ => ⟨hp1, by simp; omega⟩, by simp, fun h => by simp at h, fun h => by simp at h, fun _ => ⟨by simp, by simp; omega, fun x h => by simp at h; subst h; exact hc⟩⟩⟩
  show Res.pre _ (side1 b n (to + 3) bg c) = Res.pre _ (side0 b n nx bg)
  rw [side0, hs]
  show _ = Res.pre _ (if dots b n to then (if _ then _ else _) else _)
  rw [if_pos hd, if_neg hq]
end

theorem good0 (b : Nat → Int) (n : Nat) : Good b n ⟨0, 0, 0, [], [], 0⟩ :=
  ⟨Nat.zero_le _, by decide, fun _ => rfl, by decide, fun p h => by simp at h, Nat.zero_le _, Nat.le_refl _, fun h => by simp at h, by simp, fun h => by simp at h, fun h => by simp at h, fun h => by simp at h⟩
theorem resume0 (b : Nat → Int) (n : Nat) : resume b n ⟨0, 0, 0, [], [], 0⟩ = lexK b n 0 := Res.pre_nil _
end Go.Proofs.Ytgeajdfajfdjcaa
