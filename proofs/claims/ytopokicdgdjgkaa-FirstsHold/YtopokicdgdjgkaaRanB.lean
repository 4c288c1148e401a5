/- slices.Backward over symbols, as a range over it wants it. -/
import Derived.Test.YtopokicdgdjgkaaRanF
namespace Go.Proofs.Ytopokicdgdjgkaa
set_option linter.unusedVariables false
set_option linter.unusedSimpArgs false
open Go.ChangeShapes Go.WideShapes Go.ChangeAt Go.RowKit Go.Shelf
attribute [local go_sem] Oper.semAt_some

def symD (l : List Sy) (k : Nat) : Sy := l.getD k ⟨-1, 0, 0⟩
theorem symD_at {l : List Sy} {k : Nat} {s : Sy} (h : l[k]? = some s) : symD l k = s := by unfold symD; rw [List.getD_eq_getElem?_getD, h]; rfl
/-- The first m of n - 1, n - 2, .. -/
def dwn (n : Nat) : Nat → List Nat
  | 0 => []
  | m + 1 => dwn n m ++ [n - 1 - m]
theorem dwn_len (n : Nat) : ∀ m, (dwn n m).length = m
  | 0 => rfl
  | m + 1 => by simp [dwn, dwn_len n m]
/-- What yield is handed. -/
def bkE (l : List Sy) (k : Nat) : Array Value := #[.int .i64 (k : Int), .agg #[.int .i64 (symD l k).name, .int .i64 (symD l k).lo, .int .i64 (symD l k).hi]]
/-- A row of symbols, aside of block hb. -/
def SyCs (W : World) (E : Nat → Prop) (p : Option Addr) (sq : List Sy) : Prop := ∀ (k : Nat) (s : Sy), sq[k]? = some s → ∃ gp o, p = some ⟨gp, o, none⟩ ∧ ¬ E gp ∧ W.cell? ⟨gp, o + k * 3, none⟩ = some (.int .i64 s.name) ∧ W.cell? ⟨gp, o + k * 3 + 1, none⟩ = some (.int .i64 s.lo) ∧ W.cell? ⟨gp, o + k * 3 + 2, none⟩ = some (.int .i64 s.hi)
theorem SyCs.keep {W W' : World} {E : Nat → Prop} {p : Option Addr} {sq : List Sy} (h : SyCs W E p sq) (hk : Bc E W W') : SyCs W' E p sq := fun k s hs => by
  obtain ⟨gp, o, h1, h2, h3, h4, h5⟩ := h k s hs
  exact ⟨gp, o, h1, h2, hk.cell h2 h3, hk.cell h2 h4, hk.cell h2 h5⟩
set_option maxHeartbeats 2000000 in
set_option maxRecDepth 100000 in
theorem back1_in (m l Bs : Nat) (E : Nat → Prop) (hm : 1 ≤ m) (p : Option Addr) (cap : Nat) (sq : List Sy) (W : World) (hs : SyCs W E p sq) (hBs : ¬ E Bs) (hc : W.cell? ⟨Bs, 0, none⟩ = some (.slice p sq.length cap)) (h9 : sq.length ≤ 64) (J Jx : List Nat → World → Prop)
    (hY : ∀ pre x W1, J pre W1 → pre.length < sq.length → YieldAt Fence.wide (m - 1) Try.prog l (bkE sq x) W1 fun e W' => (e = .returned (.bool true) ∧ J (pre ++ [x]) W' ∧ Bc E W1 W') ∨ (e = .returned (.bool false) ∧ Jx (pre ++ [x]) W')) (h0 : J [] W) :
    CallsIn Fence.wide m Try.prog 46 #[.func (.yield l) #[] #[], .pointer (some ⟨Bs, 0, none⟩)] W fun e W' => (∃ v, e = .returned v) ∧
      ((∃ ys, ys = dwn sq.length sq.length ∧ J ys W') ∨ (∃ pre : List Nat, True ∧ Jx pre W')) := by
  have HS : Hid (SyCs W E p sq) := hs
  have HC : Hid (∀ wr, Bc E W wr → wr.cell? ⟨Bs, 0, none⟩ = some (.slice p sq.length cap)) := fun wr hb2 => hb2.cell hBs hc
  have HY : Hid (∀ pre x W1, J pre W1 → pre.length < sq.length → YieldAt Fence.wide (m - 1) Try.prog l (bkE sq x) W1 fun e W' => (e = .returned (.bool true) ∧ J (pre ++ [x]) W' ∧ Bc E W1 W') ∨ (e = .returned (.bool false) ∧ Jx (pre ++ [x]) W')) := hY
  have H0 : Hid (J [] W) := h0
  obtain ⟨n, hn⟩ : ∃ n, n = sq.length := ⟨_, rfl⟩
  have HN : Hid (n = sq.length) := hn
  rw [← hn] at hc h9 HC HY
  rw [← hn]
  clear hs hY h0 hn
  refine callsIn_of_wp Try.func46 rfl trivial ?_ rfl
  simp only [Try.ntmps46, List.size_toArray, List.length_cons, List.length_nil, Nat.reduceAdd, Nat.reduceSub, Array.replicate_succ, Array.replicate_zero, List.push_toArray, List.append_toArray, List.nil_append, List.cons_append]
  gi_wp2
  gi_loopw [3] (fun i wr => ∃ k : Nat, k ≤ n ∧ i = .int .i64 ((k : Int) - 1) ∧ Hid (J (dwn n (n - k)) wr) ∧ Hid (Bc E W wr)) (fun i _ => (intOf i + 1).toNat)
  case atStart => exact ⟨n, Nat.le_refl _, rfl, by rw [Nat.sub_self]; exact H0, Bc.refl _ _⟩
  case round =>
    obtain ⟨k, hk, rfl, HJ, HB⟩ := hrel
    clear hc
    cases k with
    | zero =>
      rw [show ((0 : Nat) : Int) - 1 = -1 by omega]
      have HJ2 : Hid (J (dwn n n) wr) := HJ
      gi_wp2
      go_end0
      exact ⟨⟨_, rfl⟩, .inl ⟨_, rfl, HJ2.out⟩⟩
    | succ k =>
      rw [show ((k + 1 : Nat) : Int) - 1 = (k : Int) by omega]
      obtain ⟨s, hs⟩ : ∃ s, sq[k]? = some s := ⟨_, List.getElem?_eq_getElem (by rw [← HN.out]; omega)⟩
      obtain ⟨gp, o, ep, -, a0, a1, a2⟩ := HS.out.keep HB.out k s hs
      have hg := block_lt_of_cell a0
      subst ep
      have hcx := HC.out wr HB.out
      obtain ⟨fn, tmps, assign, body, hy, hR⟩ := HY.out _ k wr HJ.out (by rw [dwn_len]; omega)
      unfold bkE at hy
      rw [symD_at hs] at hy
      obtain ⟨nm, lo, up⟩ := s
      dsimp only at hy a0 a1 a2
      have HD : Hid (dwn n (n - (k + 1)) ++ [k] = dwn n (n - k)) := by
        show _ = _
        rw [show n - k = n - (k + 1) + 1 by omega]
        show _ = dwn n (n - (k + 1)) ++ [n - 1 - (n - (k + 1))]
        rw [show n - 1 - (n - (k + 1)) = k by omega]
      clear hs
      gi_wp2
      refine hR.mono ?_
      rintro e W3 (⟨rfl, hJ3, hk3⟩ | ⟨rfl, hJx3⟩)
      · have HJ3 : Hid (J (dwn n (n - k)) W3) := by show J _ _; rw [← HD.out]; exact hJ3
        have HB3 : Hid (Bc E W W3) := HB.out.trans hk3
        clear hJ3 hk3
        gi_wp2
        go_roundw
        case rel => exact ⟨k, by omega, rfl, HJ3, HB3⟩
        case measure => simp [intOf]
      · have HJ3 : Hid (Jx (dwn n (n - (k + 1)) ++ [k]) W3) := hJx3
        gi_wp2
        refine bodyPost_ret (results_none rfl _ _ _) rfl ?_
        exact ⟨⟨_, rfl⟩, .inr ⟨_, trivial, HJ3.out⟩⟩
theorem back_stops (m Bs : Nat) (E : Nat → Prop) (hm : 1 ≤ m) (p : Option Addr) (cap : Nat) (sq : List Sy) (w : World) (hs : SyCs w E p sq) (hBs : ¬ E Bs) (hc : w.cell? ⟨Bs, 0, none⟩ = some (.slice p sq.length cap)) (h9 : sq.length ≤ 64) :
    SeqStopsK Fence.wide m Try.prog 46 #[.pointer (some ⟨Bs, 0, none⟩)] (bkE sq) (Bc E) (fun ys => ys = dwn sq.length sq.length) (fun _ => True) sq.length w := fun l J Jx W hW _ _ hY h0 =>
  back1_in m l Bs E hm p cap sq W (hs.keep (Bc.ofB hW)) hBs ((hW.cell (p := ⟨Bs, 0, none⟩) (block_lt_of_cell hc)).trans hc) h9 J Jx hY h0
set_option maxHeartbeats 1000000 in
theorem backward_any (p : Option Addr) (n cap : Nat) (w : World) :
    Calls Try.prog 35 #[.slice p n cap] w fun e w' => e = .returned (.func (.func 46) #[] #[.pointer (some ⟨w.heap.size, 0, none⟩)]) ∧ w' = w.alloc (.cells #[.slice p n cap] 28) := by
  go_enter Try.func35, Try.ntmps35
  have hmf : ∀ (fn : Fn) (first cap : Array Value) (w : World), (Instr.makeFunc fn first cap).run Try.prog w = .ok (.func fn first cap) w := fun _ _ _ _ => rfl
  go_wp2
  go_ret
  exact ⟨rfl, rfl⟩
end Go.Proofs.Ytopokicdgdjgkaa
