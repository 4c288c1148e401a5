/- Count and Places of the program, the document's Places; rows of places held against one another. -/
import Derived.Test.YtdhjegajbhlmbaaSeqW
namespace Go.Proofs.Ytdhjegajbhlmbaa
set_option linter.unusedVariables false
open Go.ChangeShapes Go.WideShapes Go.ChangeAt Go.RowKit

theorem cells3 {w : World} {x0 x1 x2 : Value} {t : TypeId} {w' : World} (hb : Below (w.alloc (.cells #[x0, x1, x2] t)).heap.size (w.alloc (.cells #[x0, x1, x2] t)) w') : w'.cell? ⟨w.heap.size, 0, none⟩ = some x0 ∧ w'.cell? ⟨w.heap.size, 1, none⟩ = some x1 ∧ w'.cell? ⟨w.heap.size, 2, none⟩ = some x2 := by
  have h : ∀ j, (w.alloc (.cells #[x0, x1, x2] t)).cell? ⟨w.heap.size, j, none⟩ = (#[x0, x1, x2] : Array Value)[j]? := fun j => World.cell?_alloc_at _ _ _ _ rfl
  exact ⟨(hb.cell (p := ⟨_, _, none⟩) (by simp)).trans (h 0), (hb.cell (p := ⟨_, _, none⟩) (by simp)).trans (h 1), (hb.cell (p := ⟨_, _, none⟩) (by simp)).trans (h 2)⟩
theorem grSlc {w : World} {F : Nat → Prop} {v1 v2 : Value} {g : Gr} (hg : GrIs w F v1 v2 g) : (∃ p c, v1 = .slice p g.names.length c) ∧ ∃ p c, v2 = .slice p g.rules.length c := by
  obtain ⟨p, c, e, _⟩ := hg.1
  exact ⟨⟨p, c, e⟩, lngR hg.2⟩
set_option maxHeartbeats 2000000 in
set_option maxRecDepth 100000 in
theorem count_no (g : Gr) (v1 v2 : Value) (w : World) {F : Nat → Prop} (hg : GrIs w F v1 v2 g) (hl : ∀ s, s ∈ g.names → s.size ≤ maxLen) (hS : Short g.rules) (hM : mayG g = false) :
    Calls Try.prog 10 #[.agg #[.int .i64 g.start, v1, v2]] w fun e w' => e = .returned (.int .i64 0) ∧ Hid (Below w.heap.size w w') := by
  have KM : Hid (∀ w', Below w.heap.size w w' → Calls Try.prog 15 #[.agg #[.int .i64 g.start, v1, v2]] w' fun e w'' => e = .returned (.bool false) ∧ Hid (Below w'.heap.size w' w'')) := fun w' hb => by
    have := may_any g v1 v2 w' (hg.any hb) hl hS
    rw [hM] at this
    exact this
  obtain ⟨⟨p1, c1, rfl⟩, ⟨p2, c2, rfl⟩⟩ := grSlc hg
  have B1 : Hid (Below w.heap.size w (w.alloc (.cells #[.int .i64 g.start, .slice p1 g.names.length c1, .slice p2 g.rules.length c2] 25))) := bel1 _ _
  generalize g.names.length = n1 at *
  generalize g.rules.length = n2 at *
  generalize g.start = st at *
  clear hg hl hS hM
  go_enter Try.func10, Try.ntmps10
  go_wp2_with (go_at_call 15; refine (KM.out _ B1.out).mono ?_; rintro e w2 ⟨rfl, b2⟩)
  go_ret
  exact ⟨rfl, B1.out.trans (b2.out.mono B1.out.size)⟩
set_option maxHeartbeats 2000000 in
set_option maxRecDepth 100000 in
theorem count_ok (g : Gr) (v1 v2 : Value) (w : World) {F : Nat → Prop} (hg : GrIs w F v1 v2 g) (hl : ∀ s, s ∈ g.names → s.size ≤ maxLen) (hS : Short g.rules) (hM : mayG g = true) :
    Calls Try.prog 10 #[.agg #[.int .i64 g.start, v1, v2]] w fun e w' => e = .returned (.int .i64 ((ruP 0 g.rules).length : Int)) ∧ Hid (Below w.heap.size w w') := by
  have KM : Hid (∀ w', Below w.heap.size w w' → Calls Try.prog 15 #[.agg #[.int .i64 g.start, v1, v2]] w' fun e w'' => e = .returned (.bool true) ∧ Hid (Below w'.heap.size w' w'')) := fun w' hb => by
    have := may_any g v1 v2 w' (hg.any hb) hl hS
    rw [hM] at this
    exact this
  obtain ⟨⟨p1, c1, rfl⟩, ⟨p2, c2, rfl⟩⟩ := grSlc hg
  have hin := mayG_plIn hM
  have hpl := hin.len
  have KW : Hid (∀ w1, Below w.heap.size w w1 → Calls Try.prog 16 #[.agg #[.int .i64 g.start, .slice p1 g.names.length c1, .slice p2 g.rules.length c2], .func (.func 18) #[] #[.pointer (some ⟨w1.heap.size, 0, none⟩)]] (w1.alloc (.cells #[.int .i64 0] 3)) fun e w' => e = .returned (.tuple #[]) ∧ Hid (CtJ w1 w1.heap.size (ruP 0 g.rules) w')) := fun w1 hb =>
    walkCnt g.start _ _ g.rules w1 (hg.2.any hb) hin (p1, g.names.length, c1) rfl w1.heap.size (CtJ w1 w1.heap.size) (fun l w h => h.1) (fun l w w' h hb => h.any hb) (fun l w i j k h hlt => cntCl w1 _ (Nat.le_refl _) l w i j k h (by omega)) _ ⟨bel1 _ _, by simp, World.cell?_alloc_at _ _ _ _ rfl, by unfold World.frozen?; rw [heap_alloc_new]; rfl⟩
  have B1 : Hid (Below w.heap.size w (w.alloc (.cells #[.int .i64 g.start, .slice p1 g.names.length c1, .slice p2 g.rules.length c2] 25))) := bel1 _ _
  have HQ : Hid (∀ w', Below (w.alloc (.cells #[.int .i64 g.start, .slice p1 g.names.length c1, .slice p2 g.rules.length c2] 25)).heap.size (w.alloc (.cells #[.int .i64 g.start, .slice p1 g.names.length c1, .slice p2 g.rules.length c2] 25)) w' → w'.cell? ⟨w.heap.size, 0, none⟩ = some (.int .i64 g.start) ∧ w'.cell? ⟨w.heap.size, 1, none⟩ = some (.slice p1 g.names.length c1) ∧ w'.cell? ⟨w.heap.size, 2, none⟩ = some (.slice p2 g.rules.length c2)) := fun w' hb => cells3 hb
  generalize ruP 0 g.rules = A at *
  generalize g.names.length = n1 at *
  generalize g.rules.length = n2 at *
  generalize g.start = st at *
  clear hg hl hS hM hin
  go_enter Try.func10, Try.ntmps10
  have hmf : ∀ (fn : Fn) (first cap : Array Value) (w : World), (Instr.makeFunc fn first cap).run Try.prog w = .ok (.func fn first cap) w := fun _ _ _ _ => rfl
  go_wp2_with (first
    | (go_at_call 15; refine (KM.out _ B1.out).mono ?_; rintro e w2 ⟨rfl, b2⟩; obtain ⟨q0, q1, q2⟩ := HQ.out _ (b2.out); have B2 : Hid (Below w.heap.size w w2) := B1.out.trans (b2.out.mono B1.out.size); obtain ⟨r0, r1, r2⟩ := HQ.out _ (b2.out.trans ((bel1 w2 (.cells #[.int .i64 0] 3)).mono b2.out.size)))
    | (go_at_call 16; refine (KW.out _ B2.out).mono ?_; rintro e w4 ⟨rfl, J4⟩; obtain ⟨b4, -, c4, -⟩ := J4.out; have B4 : Hid (Below w.heap.size w w4) := B2.out.trans (b4.mono B2.out.size); clear J4 b4 q0 q1 q2 r0 r1 r2))
  go_ret
  exact ⟨rfl, B4⟩
set_option maxHeartbeats 2000000 in
set_option maxRecDepth 100000 in
theorem places_no (g : Gr) (v1 v2 : Value) (w : World) {F : Nat → Prop} (hg : GrIs w F v1 v2 g) (hl : ∀ s, s ∈ g.names → s.size ≤ maxLen) (hS : Short g.rules) (hM : mayG g = false) :
    Calls Try.prog 6 #[.agg #[.int .i64 g.start, v1, v2]] w fun e w' => e = .returned (.tuple #[.slice none 0 0, .int .i64 1000]) ∧ Hid (Below w.heap.size w w') := by
  have KM : Hid (∀ w', Below w.heap.size w w' → Calls Try.prog 15 #[.agg #[.int .i64 g.start, v1, v2]] w' fun e w'' => e = .returned (.bool false) ∧ Hid (Below w'.heap.size w' w'')) := fun w' hb => by
    have := may_any g v1 v2 w' (hg.any hb) hl hS
    rw [hM] at this
    exact this
  obtain ⟨⟨p1, c1, rfl⟩, ⟨p2, c2, rfl⟩⟩ := grSlc hg
  have B1 : Hid (Below w.heap.size w (w.alloc (.cells #[.int .i64 g.start, .slice p1 g.names.length c1, .slice p2 g.rules.length c2] 25))) := bel1 _ _
  generalize g.names.length = n1 at *
  generalize g.rules.length = n2 at *
  generalize g.start = st at *
  clear hg hl hS hM
  go_enter Try.func6, Try.ntmps6
  go_wp2_with (go_at_call 15; refine (KM.out _ B1.out).mono ?_; rintro e w2 ⟨rfl, b2⟩)
  go_ret2
  exact ⟨rfl, B1.out.trans (b2.out.mono B1.out.size)⟩
/-- A row of places of one's own, behind w. -/
def OwPl (w : World) (v : Value) (l : List Plc) (w' : World) : Prop := ∃ b, w.heap.size ≤ b ∧ w'.ownsRow b 47 3 v l.length (plcsV l)
set_option maxHeartbeats 2000000 in
set_option maxRecDepth 100000 in
theorem places_ok (g : Gr) (v1 v2 : Value) (w : World) {F : Nat → Prop} (hg : GrIs w F v1 v2 g) (hl : ∀ s, s ∈ g.names → s.size ≤ maxLen) (hS : Short g.rules) (hM : mayG g = true) :
    Calls Try.prog 6 #[.agg #[.int .i64 g.start, v1, v2]] w fun e w' => ∃ p c, e = .returned (.tuple #[.slice p (ruP 0 g.rules).length c, .int .i64 0]) ∧ Hid (OwPl w (.slice p (ruP 0 g.rules).length c) (ruP 0 g.rules) w') ∧ Hid (Below w.heap.size w w') := by
  have KM : Hid (∀ w', Below w.heap.size w w' → Calls Try.prog 15 #[.agg #[.int .i64 g.start, v1, v2]] w' fun e w'' => e = .returned (.bool true) ∧ Hid (Below w'.heap.size w' w'')) := fun w' hb => by
    have := may_any g v1 v2 w' (hg.any hb) hl hS
    rw [hM] at this
    exact this
  obtain ⟨⟨p1, c1, rfl⟩, ⟨p2, c2, rfl⟩⟩ := grSlc hg
  have hin := mayG_plIn hM
  have hpl := hin.len
  have KW : Hid (∀ w1, Below w.heap.size w w1 → Calls Try.prog 16 #[.agg #[.int .i64 g.start, .slice p1 g.names.length c1, .slice p2 g.rules.length c2], .func (.func 17) #[] #[.pointer (some ⟨w1.heap.size, 0, none⟩)]] (w1.alloc (.cells #[.slice none 0 0] 27)) fun e w' => e = .returned (.tuple #[]) ∧ Hid (RwJ w1 w1.heap.size (ruP 0 g.rules) w')) := fun w1 hb =>
    walkPls g.start _ _ g.rules w1 (hg.2.any hb) hin (p1, g.names.length, c1) rfl w1.heap.size (RwJ w1 w1.heap.size) (fun l w h => h.1) (fun l w w' h hb => h.any hb) (fun l w i j k h hlt => rowCl w1 _ (Nat.le_refl _) l w i j k h (by omega)) _ ⟨bel1 _ _, by simp, by unfold World.frozen?; rw [heap_alloc_new]; rfl, none, 0, World.cell?_alloc_at _ _ _ _ rfl, World.ownsRow_nil _ _ _ _⟩
  have B1 : Hid (Below w.heap.size w (w.alloc (.cells #[.int .i64 g.start, .slice p1 g.names.length c1, .slice p2 g.rules.length c2] 25))) := bel1 _ _
  have HQ : Hid (∀ w', Below (w.alloc (.cells #[.int .i64 g.start, .slice p1 g.names.length c1, .slice p2 g.rules.length c2] 25)).heap.size (w.alloc (.cells #[.int .i64 g.start, .slice p1 g.names.length c1, .slice p2 g.rules.length c2] 25)) w' → w'.cell? ⟨w.heap.size, 0, none⟩ = some (.int .i64 g.start) ∧ w'.cell? ⟨w.heap.size, 1, none⟩ = some (.slice p1 g.names.length c1) ∧ w'.cell? ⟨w.heap.size, 2, none⟩ = some (.slice p2 g.rules.length c2)) := fun w' hb => cells3 hb
  generalize ruP 0 g.rules = A at *
  generalize g.names.length = n1 at *
  generalize g.rules.length = n2 at *
  generalize g.start = st at *
  clear hg hl hS hM hin
  go_enter Try.func6, Try.ntmps6
  have hmf : ∀ (fn : Fn) (first cap : Array Value) (w : World), (Instr.makeFunc fn first cap).run Try.prog w = .ok (.func fn first cap) w := fun _ _ _ _ => rfl
  go_wp2_with (first
    | (go_at_call 15; refine (KM.out _ B1.out).mono ?_; rintro e w2 ⟨rfl, b2⟩; obtain ⟨q0, q1, q2⟩ := HQ.out _ (b2.out); have B2 : Hid (Below w.heap.size w w2) := B1.out.trans (b2.out.mono B1.out.size); obtain ⟨r0, r1, r2⟩ := HQ.out _ (b2.out.trans ((bel1 w2 (.cells #[.slice none 0 0] 27)).mono b2.out.size)))
    | (go_at_call 16; refine (KW.out _ B2.out).mono ?_; rintro e w4 ⟨rfl, J4⟩; obtain ⟨b4, -, -, pp, cc, c4, o4⟩ := J4.out; have B4 : Hid (Below w.heap.size w w4) := B2.out.trans (b4.mono B2.out.size); have O4 : Hid (OwPl w (.slice pp A.length cc) A w4) := ⟨_, Nat.le_succ_of_le B2.out.size, o4⟩; clear J4 b4 o4 q0 q1 q2 r0 r1 r2))
  go_ret2
  exact ⟨_, _, rfl, O4, B4⟩
end Go.Proofs.Ytdhjegajbhlmbaa
