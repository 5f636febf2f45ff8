/-
  The document's own answer, its small functions: sign, Far, Side, Circle, Orient, InCircle, less, dist.
  The document's own answer: Check and Hull.
  The document's own answer: Hull.
-/
import Derived.Test.YtgpapegpdfonpaaGreatDoorGives
import Derived.Test.YtgpapegpdfonpaaGreatDoorSidesMath
import Derived.Deep.CutRange
import Derived.Deep.DeepCutAuto
namespace Go.Proofs.YtgpapegpdfonpaaGreatDoor
set_option linter.unusedVariables false
set_option linter.unusedSimpArgs false
open Go.RowKit
attribute [local go_sem ↓] Go.wp_at_zero Go.wp_at_succ

set_option maxHeartbeats 400000 in
theorem rsign_any (n : Int) (w : World) :
    Calls Tryz.prog 118 #[.int .i64 n] w fun e w' => e = .returned (.int .i64 (sg n)) ∧ w' = w := by
  unfold sg
  by_cases h1 : 0 < n
  · rw [if_pos h1]
    go_enter Tryz.func118, Tryz.ntmps118
    go_wp2
    go_ret
    exact ⟨rfl, rfl⟩
  · rw [if_neg h1]
    by_cases h2 : n < 0
    · rw [if_pos h2]
      go_enter Tryz.func118, Tryz.ntmps118
      go_wp2
      go_ret
      exact ⟨rfl, rfl⟩
    · rw [if_neg h2]
      go_enter Tryz.func118, Tryz.ntmps118
      go_wp2
      go_ret
      exact ⟨rfl, rfl⟩

theorem farB_x1 {x y : Int} (h : 8000 < x) : farB x y = true := by
  cases hf : farB x y with
  | true => rfl
  | false => have := (farB_near hf).x2; omega
theorem farB_x2 {x y : Int} (h : x < -8000) : farB x y = true := by
  cases hf : farB x y with
  | true => rfl
  | false => have := (farB_near hf).x1; omega
theorem farB_y1 {x y : Int} (h : 8000 < y) : farB x y = true := by
  cases hf : farB x y with
  | true => rfl
  | false => have := (farB_near hf).y2; omega
theorem farB_y2 {x y : Int} (h : y < -8000) : farB x y = true := by
  cases hf : farB x y with
  | true => rfl
  | false => have := (farB_near hf).y1; omega

set_option maxHeartbeats 400000 in
theorem rfar_any (x y : Int) (w : World) :
    Calls Tryz.prog 63 #[.agg #[.int .i64 x, .int .i64 y]] w fun e w' => e = .returned (.bool (farB x y)) ∧ Below w.heap.size w w' := by
  by_cases h1 : 8000 < x
  · rw [farB_x1 h1]
    go_enter Tryz.func63, Tryz.ntmps63
    go_wp2
    go_ret
    exact ⟨rfl, below1 _ _⟩
  · have d1 : decide (8000 < x) = false := decide_eq_false h1
    by_cases h2 : x < -8000
    · rw [farB_x2 h2]
      go_enter Tryz.func63, Tryz.ntmps63
      go_wp2
      go_ret
      exact ⟨rfl, below1 _ _⟩
    · have d2 : decide (x < -8000) = false := decide_eq_false h2
      by_cases h3 : 8000 < y
      · rw [farB_y1 h3]
        go_enter Tryz.func63, Tryz.ntmps63
        go_wp2
        go_ret
        exact ⟨rfl, below1 _ _⟩
      · have d3 : decide (8000 < y) = false := decide_eq_false h3
        by_cases h4 : y < -8000
        · rw [farB_y2 h4]
          go_enter Tryz.func63, Tryz.ntmps63
          go_wp2
          go_ret
          exact ⟨rfl, below1 _ _⟩
        · have d4 : decide (y < -8000) = false := decide_eq_false h4
          rw [near_farB ⟨by omega, by omega, by omega, by omega⟩]
          go_enter Tryz.func63, Tryz.ntmps63
          go_wp2
          go_ret
          exact ⟨rfl, below1 _ _⟩

set_option maxHeartbeats 400000 in
theorem rside_any (ax ay bx by' cx cy : Int) (w : World) (a : Near ax ay) (b : Near bx by') (c : Near cx cy) :
    Calls Tryz.prog 87 #[.agg #[.int .i64 ax, .int .i64 ay], .agg #[.int .i64 bx, .int .i64 by'], .agg #[.int .i64 cx, .int .i64 cy]] w fun e w' =>
      e = .returned (.int .i64 (sg (sideN ax ay bx by' cx cy))) ∧ Below w.heap.size w w' := by
  obtain ⟨a1, a2, a3, a4⟩ := a; obtain ⟨b1, b2, b3, b4⟩ := b; obtain ⟨c1, c2, c3, c4⟩ := c
  have m1 := @mul_bd (bx - ax) (cy - ay) 16000 16000 (by omega) (by omega) (by omega) (by omega)
  have m2 := @mul_bd (by' - ay) (cx - ax) 16000 16000 (by omega) (by omega) (by omega) (by omega)
  unfold sideN
  go_enter Tryz.func87, Tryz.ntmps87
  go_wp2_with (go_at_call 118; refine (rsign_any _ _).mono ?_; rintro e w' ⟨rfl, rfl⟩)
  go_ret
  exact ⟨rfl, below3 _ _ _ _⟩

set_option maxHeartbeats 400000 in
theorem rdist_any (ax ay bx by' : Int) (w : World) (a : Near ax ay) (b : Near bx by') :
    Calls Tryz.prog 91 #[.agg #[.int .i64 ax, .int .i64 ay], .agg #[.int .i64 bx, .int .i64 by']] w fun e w' =>
      e = .returned (.int .i64 (dst (ax, ay) (bx, by'))) ∧ Below w.heap.size w w' := by
  obtain ⟨a1, a2, a3, a4⟩ := a; obtain ⟨b1, b2, b3, b4⟩ := b
  have m1 := @mul_bd (ax - bx) (ax - bx) 16000 16000 (by omega) (by omega) (by omega) (by omega)
  have m2 := @mul_bd (ay - by') (ay - by') 16000 16000 (by omega) (by omega) (by omega) (by omega)
  unfold dst
  simp only
  go_enter Tryz.func91, Tryz.ntmps91
  go_wp2
  go_ret
  exact ⟨rfl, below2 _ _ _⟩

set_option maxHeartbeats 400000 in
theorem rless_any (ax ay bx by' : Int) (w : World) :
    Calls Tryz.prog 90 #[.agg #[.int .i64 ax, .int .i64 ay], .agg #[.int .i64 bx, .int .i64 by']] w fun e w' =>
      e = .returned (.bool (decide (plt (ax, ay) (bx, by')))) ∧ Below w.heap.size w w' := by
  by_cases h1 : ax < bx
  · rw [decide_eq_true (p := plt (ax, ay) (bx, by')) (by unfold plt; simp only; omega)]
    go_enter Tryz.func90, Tryz.ntmps90
    go_wp2
    go_ret
    exact ⟨rfl, below2 _ _ _⟩
  · have d1 : decide (ax < bx) = false := decide_eq_false h1
    by_cases h2 : ax = bx
    · subst h2
      by_cases h3 : ay < by'
      · rw [decide_eq_true (p := plt (ax, ay) (ax, by')) (.inr ⟨rfl, h3⟩)]
        go_enter Tryz.func90, Tryz.ntmps90
        go_wp2
        go_ret
        exact ⟨rfl, below2 _ _ _⟩
      · rw [decide_eq_false (p := plt (ax, ay) (ax, by')) (by unfold plt; simp only; omega)]
        have d3 : decide (ay < by') = false := decide_eq_false h3
        go_enter Tryz.func90, Tryz.ntmps90
        go_wp2
        go_ret
        exact ⟨rfl, below2 _ _ _⟩
    · rw [decide_eq_false (p := plt (ax, ay) (bx, by')) (by unfold plt; simp only; omega)]
      have d2 : (ax == bx) = false := beq_eq_false_iff_ne.2 h2
      go_enter Tryz.func90, Tryz.ntmps90
      go_wp2
      go_ret
      exact ⟨rfl, below2 _ _ _⟩

set_option maxHeartbeats 1000000 in
theorem rcircle_any (ax ay bx by' cx cy dx dy : Int) (w : World) (a : Near ax ay) (b : Near bx by') (c : Near cx cy) (d : Near dx dy) :
    Calls Tryz.prog 88 #[.agg #[.int .i64 ax, .int .i64 ay], .agg #[.int .i64 bx, .int .i64 by'], .agg #[.int .i64 cx, .int .i64 cy], .agg #[.int .i64 dx, .int .i64 dy]] w fun e w' =>
      e = .returned (.int .i64 (sg (sideN ax ay bx by' cx cy) * sg (circN ax ay bx by' cx cy dx dy))) ∧ Below w.heap.size w w' := by
  have ha := a; have hb := b; have hc := c
  obtain ⟨a1, a2, a3, a4⟩ := a; obtain ⟨b1, b2, b3, b4⟩ := b; obtain ⟨c1, c2, c3, c4⟩ := c; obtain ⟨d1, d2, d3, d4⟩ := d
  unfold circN
  have B1 : -16000 ≤ ax - dx ∧ ax - dx ≤ 16000 := by omega
  have B2 : -16000 ≤ ay - dy ∧ ay - dy ≤ 16000 := by omega
  have B3 : -16000 ≤ bx - dx ∧ bx - dx ≤ 16000 := by omega
  have B4 : -16000 ≤ by' - dy ∧ by' - dy ≤ 16000 := by omega
  have B5 : -16000 ≤ cx - dx ∧ cx - dx ≤ 16000 := by omega
  have B6 : -16000 ≤ cy - dy ∧ cy - dy ≤ 16000 := by omega
  have HS := fun W => rside_any ax ay bx by' cx cy W ha hb hc
  have hsb := sg_bd (sideN ax ay bx by' cx cy)
  generalize sg (sideN ax ay bx by' cx cy) = S at *
  have v1 := wrap_id (n := ax - dx) (by omega) (by omega)
  have v2 := wrap_id (n := ay - dy) (by omega) (by omega)
  have v3 := wrap_id (n := bx - dx) (by omega) (by omega)
  have v4 := wrap_id (n := by' - dy) (by omega) (by omega)
  have v5 := wrap_id (n := cx - dx) (by omega) (by omega)
  have v6 := wrap_id (n := cy - dy) (by omega) (by omega)
  go_enter Tryz.func88, Tryz.ntmps88
  go_wp2_with (go_at_call 87; refine (HS _).mono ?_; rintro e w1 ⟨rfl, hb1⟩)
  have hw1 : Below w.heap.size w w1 := (below4 _ _ _ _ _).trans (hb1.mono (by simp; omega))
  have k0 : w1.cell? ⟨w.heap.size, 0, none⟩ = some (.int .i64 ax) := (hb1.cell (p := ⟨w.heap.size, 0, none⟩) (by simp; omega)).trans (by simp [go_sem])
  have k1 : w1.cell? ⟨w.heap.size, 1, none⟩ = some (.int .i64 ay) := (hb1.cell (p := ⟨w.heap.size, 1, none⟩) (by simp; omega)).trans (by simp [go_sem])
  have k2 : w1.cell? ⟨w.heap.size + 1, 0, none⟩ = some (.int .i64 bx) := (hb1.cell (p := ⟨w.heap.size + 1, 0, none⟩) (by simp)).trans (by simp [go_sem])
  have k3 : w1.cell? ⟨w.heap.size + 1, 1, none⟩ = some (.int .i64 by') := (hb1.cell (p := ⟨w.heap.size + 1, 1, none⟩) (by simp)).trans (by simp [go_sem])
  have k4 : w1.cell? ⟨w.heap.size + 1 + 1, 0, none⟩ = some (.int .i64 cx) := (hb1.cell (p := ⟨w.heap.size + 1 + 1, 0, none⟩) (by simp)).trans (by rw [World.cell?_alloc_past _ _ _ (by simp), World.cell?_alloc_at _ _ _ _ (by simp)]; rfl)
  have k5 : w1.cell? ⟨w.heap.size + 1 + 1, 1, none⟩ = some (.int .i64 cy) := (hb1.cell (p := ⟨w.heap.size + 1 + 1, 1, none⟩) (by simp)).trans (by rw [World.cell?_alloc_past _ _ _ (by simp), World.cell?_alloc_at _ _ _ _ (by simp)]; rfl)
  have k6 : w1.cell? ⟨w.heap.size + 1 + 1 + 1, 0, none⟩ = some (.int .i64 dx) := (hb1.cell (p := ⟨w.heap.size + 1 + 1 + 1, 0, none⟩) (by simp)).trans (by rw [World.cell?_alloc_at _ _ _ _ (by simp)]; rfl)
  have k7 : w1.cell? ⟨w.heap.size + 1 + 1 + 1, 1, none⟩ = some (.int .i64 dy) := (hb1.cell (p := ⟨w.heap.size + 1 + 1 + 1, 1, none⟩) (by simp)).trans (by rw [World.cell?_alloc_at _ _ _ _ (by simp)]; rfl)
  clear hb1
  go_quiet (fail)
  go_wp2_with fail
  go_quiet (fail)
  go_wp2_with fail
  go_quiet (fail)
  clear k0 k1 k2 k3 k4 k5 k6 k7 v1 v2 v3 v4 v5 v6 HS
  generalize hs1 : ax - dx = s1 at *; generalize hs2 : ay - dy = s2 at *
  generalize ht1 : bx - dx = t1 at *; generalize ht2 : by' - dy = t2 at *
  generalize hu1 : cx - dx = u1 at *; generalize hu2 : cy - dy = u2 at *
  have HQ : Hid (ax - dx = s1 ∧ ay - dy = s2 ∧ bx - dx = t1 ∧ by' - dy = t2 ∧ cx - dx = u1 ∧ cy - dy = u2) := ⟨hs1, hs2, ht1, ht2, hu1, hu2⟩
  clear hs1 hs2 ht1 ht2 hu1 hu2
  have M : ∀ {x y : Int}, (-16000 ≤ x ∧ x ≤ 16000) → (-16000 ≤ y ∧ y ≤ 16000) → -256000000 ≤ x * y ∧ x * y ≤ 256000000 := fun {x y} hx hy => @mul_bd x y 16000 16000 (by omega) (by omega) (by omega) (by omega)
  have e1 := M B1 B1; have e2 := M B2 B2; have e3 := M B3 B6; have e4 := M B4 B5; have e5 := M B3 B3; have e6 := M B4 B4; have e7 := M B5 B2; have e8 := M B6 B1; have e9 := M B5 B5; have e10 := M B6 B6; have e11 := M B1 B4; have e12 := M B2 B3
  have g1 := sqcr_bd s1 s2 t1 t2 u1 u2 B1 B2 B3 B4 B5 B6
  have g2 := sqcr_bd t1 t2 u1 u2 s1 s2 B3 B4 B5 B6 B1 B2
  have g3 := sqcr_bd u1 u2 s1 s2 t1 t2 B5 B6 B1 B2 B3 B4
  have x1 := wrap_id (n := s1 * s1) (by omega) (by omega)
  have x2 := wrap_id (n := s2 * s2) (by omega) (by omega)
  have x3 := wrap_id (n := s1 * s1 + s2 * s2) (by omega) (by omega)
  have x4 := wrap_id (n := t1 * u2) (by omega) (by omega)
  have x5 := wrap_id (n := t2 * u1) (by omega) (by omega)
  have x6 := wrap_id (n := t1 * u2 - t2 * u1) (by omega) (by omega)
  have x7 := wrap_id (n := (s1 * s1 + s2 * s2) * (t1 * u2 - t2 * u1)) (by omega) (by omega)
  have x8 := wrap_id (n := t1 * t1) (by omega) (by omega)
  have x9 := wrap_id (n := t2 * t2) (by omega) (by omega)
  have x10 := wrap_id (n := t1 * t1 + t2 * t2) (by omega) (by omega)
  have x11 := wrap_id (n := u1 * s2) (by omega) (by omega)
  have x12 := wrap_id (n := u2 * s1) (by omega) (by omega)
  have x13 := wrap_id (n := u1 * s2 - u2 * s1) (by omega) (by omega)
  have x14 := wrap_id (n := (t1 * t1 + t2 * t2) * (u1 * s2 - u2 * s1)) (by omega) (by omega)
  have x15 := wrap_id (n := (s1 * s1 + s2 * s2) * (t1 * u2 - t2 * u1) + (t1 * t1 + t2 * t2) * (u1 * s2 - u2 * s1)) (by omega) (by omega)
  have x16 := wrap_id (n := u1 * u1) (by omega) (by omega)
  have x17 := wrap_id (n := u2 * u2) (by omega) (by omega)
  have x18 := wrap_id (n := u1 * u1 + u2 * u2) (by omega) (by omega)
  have x19 := wrap_id (n := s1 * t2) (by omega) (by omega)
  have x20 := wrap_id (n := s2 * t1) (by omega) (by omega)
  have x21 := wrap_id (n := s1 * t2 - s2 * t1) (by omega) (by omega)
  have x22 := wrap_id (n := (u1 * u1 + u2 * u2) * (s1 * t2 - s2 * t1)) (by omega) (by omega)
  have x23 := wrap_id (n := (s1 * s1 + s2 * s2) * (t1 * u2 - t2 * u1) + (t1 * t1 + t2 * t2) * (u1 * s2 - u2 * s1) + (u1 * u1 + u2 * u2) * (s1 * t2 - s2 * t1)) (by omega) (by omega)
  clear e1 e2 e3 e4 e5 e6 e7 e8 e9 e10 e11 e12 g1 g2 g3 M B1 B2 B3 B4 B5 B6
  have hfin : ∀ n : Int, IntKind.i64.wrap (S * sg n) = S * sg n := fun n => by
    have := sg_bd n
    have := @mul_bd S (sg n) 1 1 (by omega) (by omega) (by omega) (by omega)
    exact wrap_id (by omega) (by omega)
  go_wp2_with (go_at_call 118; refine (rsign_any _ _).mono ?_; rintro e w2 ⟨rfl, rfl⟩; have hf' := hfin ((s1 * s1 + s2 * s2) * (t1 * u2 - t2 * u1) + (t1 * t1 + t2 * t2) * (u1 * s2 - u2 * s1) + (u1 * u1 + u2 * u2) * (s1 * t2 - s2 * t1)))
  go_ret
  obtain ⟨rfl, rfl, rfl, rfl, rfl, rfl⟩ := HQ.out
  exact ⟨rfl, below_drewN hw1⟩

/-- points in blocks, one behind the other -/
structure Pts (W : World) (p : Nat) (l : List Pt) : Prop where
  cells : ∀ i, i < l.length → W.cell? ⟨p + i, 0, none⟩ = some (.int .i64 (l.getD i (0, 0)).1) ∧ W.cell? ⟨p + i, 1, none⟩ = some (.int .i64 (l.getD i (0, 0)).2)
  lt : p + l.length ≤ W.heap.size
theorem Pts.below {W W' : World} {p : Nat} {l : List Pt} (h : Pts W p l) (hb : Below W.heap.size W W') : Pts W' p l :=
  ⟨fun i hi => ⟨(hb.cell (p := ⟨p + i, 0, none⟩) (by have := h.lt; show p + i < _; omega)).trans (h.cells i hi).1, (hb.cell (p := ⟨p + i, 1, none⟩) (by have := h.lt; show p + i < _; omega)).trans (h.cells i hi).2⟩, Nat.le_trans h.lt hb.size⟩
theorem Pts.snoc {W : World} {p : Nat} {l : List Pt} (h : Pts W p l) (e : p + l.length = W.heap.size) (x y : Int) (T : TypeId) : Pts (W.alloc (.cells #[.int .i64 x, .int .i64 y] T)) p (l ++ [(x, y)]) := by
  refine ⟨fun i hi => ?_, by simp; omega⟩
  by_cases hl : i < l.length
  · have e1 : (l ++ [(x, y)]).getD i (0, 0) = l.getD i (0, 0) := by simp [List.getElem?_append_left hl]
    rw [e1, World.cell?_alloc_past _ _ _ (by show p + i < _; omega), World.cell?_alloc_past _ _ _ (by show p + i < _; omega)]
    exact h.cells i hl
  · have hi' : i = l.length := by simp at hi; omega
    subst hi'
    rw [World.cell?_alloc_at _ _ _ _ (by show p + l.length = _; omega), World.cell?_alloc_at _ _ _ _ (by show p + l.length = _; omega)]
    simp
theorem Pts.nil (W : World) : Pts W W.heap.size [] := ⟨fun i hi => by simp at hi, by simp⟩
theorem Pts.three (w : World) (ax ay bx by' cx cy : Int) (T : TypeId) : Pts (((w.alloc (.cells #[.int .i64 ax, .int .i64 ay] T)).alloc (.cells #[.int .i64 bx, .int .i64 by'] T)).alloc (.cells #[.int .i64 cx, .int .i64 cy] T)) w.heap.size [(ax, ay), (bx, by'), (cx, cy)] :=
  (((Pts.nil w).snoc (by simp) ax ay T).snoc (by simp) bx by' T).snoc (by simp) cx cy T
theorem Pts.four (w : World) (ax ay bx by' cx cy dx dy : Int) (T : TypeId) : Pts ((((w.alloc (.cells #[.int .i64 ax, .int .i64 ay] T)).alloc (.cells #[.int .i64 bx, .int .i64 by'] T)).alloc (.cells #[.int .i64 cx, .int .i64 cy] T)).alloc (.cells #[.int .i64 dx, .int .i64 dy] T)) w.heap.size [(ax, ay), (bx, by'), (cx, cy), (dx, dy)] :=
  (((((Pts.nil w).snoc (by simp) ax ay T).snoc (by simp) bx by' T).snoc (by simp) cx cy T)).snoc (by simp) dx dy T
theorem Pts.get3 {W : World} {p : Nat} {ax ay bx by' cx cy : Int} (h : Pts W p [(ax, ay), (bx, by'), (cx, cy)]) :
    (W.cell? ⟨p, 0, none⟩ = some (.int .i64 ax) ∧ W.cell? ⟨p, 1, none⟩ = some (.int .i64 ay)) ∧ (W.cell? ⟨p + 1, 0, none⟩ = some (.int .i64 bx) ∧ W.cell? ⟨p + 1, 1, none⟩ = some (.int .i64 by')) ∧ (W.cell? ⟨p + 1 + 1, 0, none⟩ = some (.int .i64 cx) ∧ W.cell? ⟨p + 1 + 1, 1, none⟩ = some (.int .i64 cy)) :=
  ⟨h.cells 0 (by simp), h.cells 1 (by simp), h.cells 2 (by simp)⟩
theorem Pts.get4 {W : World} {p : Nat} {ax ay bx by' cx cy dx dy : Int} (h : Pts W p [(ax, ay), (bx, by'), (cx, cy), (dx, dy)]) :
    (W.cell? ⟨p, 0, none⟩ = some (.int .i64 ax) ∧ W.cell? ⟨p, 1, none⟩ = some (.int .i64 ay)) ∧ (W.cell? ⟨p + 1, 0, none⟩ = some (.int .i64 bx) ∧ W.cell? ⟨p + 1, 1, none⟩ = some (.int .i64 by')) ∧ (W.cell? ⟨p + 1 + 1, 0, none⟩ = some (.int .i64 cx) ∧ W.cell? ⟨p + 1 + 1, 1, none⟩ = some (.int .i64 cy)) ∧ (W.cell? ⟨p + 1 + 1 + 1, 0, none⟩ = some (.int .i64 dx) ∧ W.cell? ⟨p + 1 + 1 + 1, 1, none⟩ = some (.int .i64 dy)) :=
  ⟨h.cells 0 (by simp), h.cells 1 (by simp), h.cells 2 (by simp), h.cells 3 (by simp)⟩

set_option maxHeartbeats 1000000 in
theorem rorient_any (ax ay bx by' cx cy : Int) (w : World) :
    Calls Tryz.prog 38 #[.agg #[.int .i64 ax, .int .i64 ay], .agg #[.int .i64 bx, .int .i64 by'], .agg #[.int .i64 cx, .int .i64 cy]] w fun e w' =>
      e = .returned (.tuple #[.int .i64 (if (farB ax ay || farB bx by' || farB cx cy) = true then 0 else sg (sideN ax ay bx by' cx cy)), .int .i64 (if (farB ax ay || farB bx by' || farB cx cy) = true then 1 else 0)]) ∧ Below w.heap.size w w' := by
  have HS := fun (h1 : farB ax ay = false) (h2 : farB bx by' = false) (h3 : farB cx cy = false) W => rside_any ax ay bx by' cx cy W (farB_near h1) (farB_near h2) (farB_near h3)
  have F1 := fun W => rfar_any ax ay W
  have F2 := fun W => rfar_any bx by' W
  have F3 := fun W => rfar_any cx cy W
  have T0 := Pts.three w ax ay bx by' cx cy 37
  have hb0 := below3 w (.cells #[.int .i64 ax, .int .i64 ay] 37) (.cells #[.int .i64 bx, .int .i64 by'] 37) (.cells #[.int .i64 cx, .int .i64 cy] 37)
  generalize sg (sideN ax ay bx by' cx cy) = S at *
  generalize farB ax ay = f1 at *
  generalize farB bx by' = f2 at *
  generalize farB cx cy = f3 at *
  go_enter Tryz.func38, Tryz.ntmps38
  go_upto_region 1 with fail
  generalize ((w.alloc (.cells #[.int .i64 ax, .int .i64 ay] 37)).alloc (.cells #[.int .i64 bx, .int .i64 by'] 37)).alloc (.cells #[.int .i64 cx, .int .i64 cy] 37) = W0 at *
  obtain ⟨⟨k0, k1⟩, ⟨k2, k3⟩, k4, k5⟩ := T0.get3
  go_upto_region 2 with (go_at_call 63; refine (F1 _).mono ?_; rintro e W1 ⟨rfl, hb1⟩)
  have T1 := T0.below hb1
  have B1 := hb0.trans (hb1.mono hb0.size)
  clear T0 hb0 hb1 k0 k1 k2 k3 k4 k5
  obtain ⟨⟨k0, k1⟩, ⟨k2, k3⟩, k4, k5⟩ := T1.get3
  go_upto_region 3 with (go_at_call 63; refine (F2 _).mono ?_; rintro e W2 ⟨rfl, hb1⟩)
  have T2 := T1.below hb1
  have B2 := B1.trans (hb1.mono B1.size)
  clear T1 B1 hb1 k0 k1 k2 k3 k4 k5
  obtain ⟨⟨k0, k1⟩, ⟨k2, k3⟩, k4, k5⟩ := T2.get3
  go_upto_region 4 with (go_at_call 63; refine (F3 _).mono ?_; rintro e W3 ⟨rfl, hb1⟩)
  have T3 := T2.below hb1
  have B3 := B2.trans (hb1.mono B2.size)
  clear T2 B2 hb1 k0 k1 k2 k3 k4 k5
  obtain ⟨⟨k0, k1⟩, ⟨k2, k3⟩, k4, k5⟩ := T3.get3
  cases f1 <;> cases f2 <;> cases f3
  · go_wp2_with (go_at_call 87; refine (HS rfl rfl rfl _).mono ?_; rintro e W4 ⟨rfl, hb1⟩)
    go_ret2
    exact ⟨rfl, B3.trans (hb1.mono B3.size)⟩
  all_goals
    go_wp2
    go_ret2
    exact ⟨rfl, B3⟩

set_option maxHeartbeats 2000000 in
theorem rinCircle_any (ax ay bx by' cx cy dx dy : Int) (w : World) :
    Calls Tryz.prog 41 #[.agg #[.int .i64 ax, .int .i64 ay], .agg #[.int .i64 bx, .int .i64 by'], .agg #[.int .i64 cx, .int .i64 cy], .agg #[.int .i64 dx, .int .i64 dy]] w fun e w' =>
      e = .returned (.tuple #[.int .i64 (if (farB ax ay || farB bx by' || farB cx cy || farB dx dy) = true then 0 else sg (sideN ax ay bx by' cx cy) * sg (circN ax ay bx by' cx cy dx dy)), .int .i64 (if (farB ax ay || farB bx by' || farB cx cy || farB dx dy) = true then 1 else 0)]) ∧ Below w.heap.size w w' := by
  have HS := fun (h1 : farB ax ay = false) (h2 : farB bx by' = false) (h3 : farB cx cy = false) (h4 : farB dx dy = false) W => rcircle_any ax ay bx by' cx cy dx dy W (farB_near h1) (farB_near h2) (farB_near h3) (farB_near h4)
  have F1 := fun W => rfar_any ax ay W
  have F2 := fun W => rfar_any bx by' W
  have F3 := fun W => rfar_any cx cy W
  have F4 := fun W => rfar_any dx dy W
  have T0 := Pts.four w ax ay bx by' cx cy dx dy 37
  have hb0 := below4 w (.cells #[.int .i64 ax, .int .i64 ay] 37) (.cells #[.int .i64 bx, .int .i64 by'] 37) (.cells #[.int .i64 cx, .int .i64 cy] 37) (.cells #[.int .i64 dx, .int .i64 dy] 37)
  generalize sg (sideN ax ay bx by' cx cy) * sg (circN ax ay bx by' cx cy dx dy) = S at *
  generalize farB ax ay = f1 at *
  generalize farB bx by' = f2 at *
  generalize farB cx cy = f3 at *
  generalize farB dx dy = f4 at *
  go_enter Tryz.func41, Tryz.ntmps41
  go_upto_region 1 with fail
  generalize (((w.alloc (.cells #[.int .i64 ax, .int .i64 ay] 37)).alloc (.cells #[.int .i64 bx, .int .i64 by'] 37)).alloc (.cells #[.int .i64 cx, .int .i64 cy] 37)).alloc (.cells #[.int .i64 dx, .int .i64 dy] 37) = W0 at *
  obtain ⟨⟨k0, k1⟩, ⟨k2, k3⟩, ⟨k4, k5⟩, k6, k7⟩ := T0.get4
  go_upto_region 2 with (go_at_call 63; refine (F1 _).mono ?_; rintro e W1 ⟨rfl, hb1⟩)
  have T1 := T0.below hb1
  have B1 := hb0.trans (hb1.mono hb0.size)
  clear T0 hb0 hb1 k0 k1 k2 k3 k4 k5 k6 k7
  obtain ⟨⟨k0, k1⟩, ⟨k2, k3⟩, ⟨k4, k5⟩, k6, k7⟩ := T1.get4
  go_upto_region 3 with (go_at_call 63; refine (F2 _).mono ?_; rintro e W2 ⟨rfl, hb1⟩)
  have T2 := T1.below hb1
  have B2 := B1.trans (hb1.mono B1.size)
  clear T1 B1 hb1 k0 k1 k2 k3 k4 k5 k6 k7
  obtain ⟨⟨k0, k1⟩, ⟨k2, k3⟩, ⟨k4, k5⟩, k6, k7⟩ := T2.get4
  go_upto_region 4 with (go_at_call 63; refine (F3 _).mono ?_; rintro e W3 ⟨rfl, hb1⟩)
  have T3 := T2.below hb1
  have B3 := B2.trans (hb1.mono B2.size)
  clear T2 B2 hb1 k0 k1 k2 k3 k4 k5 k6 k7
  obtain ⟨⟨k0, k1⟩, ⟨k2, k3⟩, ⟨k4, k5⟩, k6, k7⟩ := T3.get4
  go_upto_region 5 with (go_at_call 63; refine (F4 _).mono ?_; rintro e W4 ⟨rfl, hb1⟩)
  have T4 := T3.below hb1
  have B4 := B3.trans (hb1.mono B3.size)
  clear T3 B3 hb1 k0 k1 k2 k3 k4 k5 k6 k7
  obtain ⟨⟨k0, k1⟩, ⟨k2, k3⟩, ⟨k4, k5⟩, k6, k7⟩ := T4.get4
  cases f1 <;> cases f2 <;> cases f3 <;> cases f4
  · go_wp2_with (go_at_call 88; refine (HS rfl rfl rfl rfl _).mono ?_; rintro e W5 ⟨rfl, hb1⟩)
    go_ret2
    exact ⟨rfl, B4.trans (hb1.mono B4.size)⟩
  all_goals
    go_wp2
    go_ret2
    exact ⟨rfl, B4⟩

end Go.Proofs.YtgpapegpdfonpaaGreatDoor

namespace Go.Proofs.YtgpapegpdfonpaaGreatDoor
set_option linter.unusedVariables false
set_option linter.unusedSimpArgs false
open Go.RowKit
attribute [local go_sem ↓] Go.wp_at_zero Go.wp_at_succ

theorem take_succ_nodup {l : List Pt} {i : Nat} (hi : i < l.length) (h : (l.take i).Nodup) (hn : l[i] ∉ l.take i) : (l.take (i + 1)).Nodup := by
  rw [List.take_succ_eq_append_getElem hi, List.nodup_append]
  exact ⟨h, by simp, fun a ha b hb e => by simp at hb; subst hb e; exact hn ha⟩
theorem mem_take_succ' {l : List Pt} {n : Nat} (h : n < l.length) {p : Pt} (h1 : p ∉ l.take n) (h2 : p ≠ l[n]) : p ∉ l.take (n + 1) := by
  rw [List.take_succ_eq_append_getElem h, List.mem_append, List.mem_singleton]
  exact fun x => x.elim h1 h2
theorem not_nodup_at {l : List Pt} {i j : Nat} (hi : i < l.length) (hj : j < i) (h : l[i] = l[j]'(by omega)) : ¬ l.Nodup := fun hn => by
  have := nodup_inj hn hi (by omega) h; omega

theorem fault_many' {l : List Pt} (h : 60 < l.length) : faultN l = 2 := by unfold faultN; rw [if_pos h]
theorem fault_far' {l : List Pt} (h : ¬ 60 < l.length) (hf : anyFarB l = true) : faultN l = 1 := by unfold faultN; rw [if_neg h, if_pos hf]
theorem fault_twice' {l : List Pt} (h : ¬ 60 < l.length) (hf : anyFarB l = false) (hd : ¬ l.Nodup) : faultN l = 3 := by
  unfold faultN twiceB; rw [if_neg h, hf, if_neg (by simp), decide_eq_false hd, if_pos (by simp)]
theorem fault_none' {l : List Pt} (h : ¬ 60 < l.length) (hf : anyFarB l = false) (hd : l.Nodup) : faultN l = 0 := by
  unfold faultN twiceB; rw [if_neg h, hf, if_neg (by simp), decide_eq_true hd, if_neg (by simp)]

set_option maxHeartbeats 2000000 in
theorem check_any (a : Option Addr) (cap : Nat) (l : List Pt) (w : World) (hr : RawAt w a l) :
    Calls Tryz.prog 48 #[.slice a l.length cap] w fun e w' => e = .returned (.int .i64 (faultN l)) ∧ Below w.heap.size w w' := by
  by_cases h60 : 60 < l.length
  · rw [fault_many' h60]
    have hc : (60 : Int) < (l.length : Int) := by omega
    go_enter Tryz.func48, Tryz.ntmps48
    go_wp2
    go_ret
    exact ⟨rfl, Below.refl _ _⟩
  · have hc : ¬ ((60 : Int) < (l.length : Int)) := by omega
    have l60 : (l.length : Int) ≤ 60 := by omega
    have key : ∀ k, k < l.length → ∃ b off, a = some ⟨b, off, none⟩ ∧ b < w.heap.size ∧ PtsAt w b off l := fun k hk => by
      rcases hr with rfl | h
      · simp at hk
      · exact h
    have KEY : Hid (∀ k, k < l.length → ∃ b off, a = some ⟨b, off, none⟩ ∧ b < w.heap.size ∧ PtsAt w b off l) := key
    clear key hr
    go_enter Tryz.func48, Tryz.ntmps48
    go_wp2
    go_loopw [3] (fun i wr => ∃ k : Nat, k ≤ l.length ∧ i = .int .i64 k ∧ anyFarB (l.take k) = false ∧ Below w.heap.size w wr) (fun i _ => l.length - (intOf i).toNat)
    case atStart => exact ⟨0, Nat.zero_le _, rfl, rfl, Below.refl _ _⟩
    case round =>
      obtain ⟨k, hk, rfl, hno, hnx⟩ := hrel
      by_cases hlt : k < l.length
      · obtain ⟨b, off, rfl, hb, hp⟩ := KEY.out k hlt
        obtain ⟨c0, c1⟩ := (hp.below hnx hb) k hlt
        have eg : l.getD k (0, 0) = l[k] := by simp [hlt]
        rw [eg] at c0 c1
        have HNO : Hid (anyFarB (l.take k) = false) := hno
        clear hno hp
        have x0 : (0 : Int) ≤ (k : Int) := by omega
        have x1 : (k : Int) < (l.length : Int) := by omega
        cases hf : farB l[k].1 l[k].2 with
        | true =>
          have HF : Hid (farB l[k].1 l[k].2 = true) := hf
          have F := fun W => rfar_any l[k].1 l[k].2 W
          rw [hf] at F
          clear hf
          generalize l[k].1 = lx at c0 F
          generalize l[k].2 = ly at c1 F
          go_wp2_with (go_at_call 63; refine (F _).mono ?_; rintro e w' ⟨rfl, hb1⟩)
          go_ret
          exact ⟨by rw [fault_far' h60 (anyFarB_hit l k hlt HF.out)]; rfl, hnx.trans (hb1.mono hnx.size)⟩
        | false =>
          have HF : Hid (farB l[k].1 l[k].2 = false) := hf
          have F := fun W => rfar_any l[k].1 l[k].2 W
          rw [hf] at F
          clear hf
          generalize l[k].1 = lx at c0 F
          generalize l[k].2 = ly at c1 F
          go_wp2_with (go_at_call 63; refine (F _).mono ?_; rintro e w' ⟨rfl, hb1⟩)
          go_roundw
          case rel => exact ⟨k + 1, by omega, by go_num, by rw [anyFarB_succ l k hlt, HNO.out, HF.out]; rfl, hnx.trans (hb1.mono hnx.size)⟩
          case measure => simp [intOf]; omega
      · rw [List.take_of_length_le (by omega)] at hno
        have HNO : Hid (anyFarB l = false) := hno
        clear hno
        go_wp2
        go_loopw [5] (fun i wr => ∃ k : Nat, k ≤ l.length ∧ i = .int .i64 k ∧ (l.take k).Nodup ∧ Below w.heap.size w wr) (fun i _ => l.length - (intOf i).toNat)
        case atStart => exact ⟨0, Nat.zero_le _, rfl, by simp, hnx⟩
        case round =>
          clear hnx
          obtain ⟨i, hi, rfl, hnd, hnx⟩ := hrel
          have HND : Hid ((l.take i).Nodup) := hnd
          clear hnd
          by_cases hil : i < l.length
          · obtain ⟨b, off, rfl, hb, hp⟩ := KEY.out i hil
            go_wp2
            go_loopw [6] (fun j wr => ∃ n : Nat, n ≤ i ∧ j = .int .i64 n ∧ l[i] ∉ l.take n ∧ Below w.heap.size w wr) (fun j _ => i - (intOf j).toNat)
            case atStart => exact ⟨0, Nat.zero_le _, rfl, by simp, hnx⟩
            case round =>
              clear hnx
              obtain ⟨n, hn, rfl, hnm, hnx⟩ := hrel
              have HNM : Hid (l[i] ∉ l.take n) := hnm
              clear hnm
              by_cases hni : n < i
              · have hnl : n < l.length := by omega
                obtain ⟨c0, c1⟩ := (hp.below hnx hb) i hil
                obtain ⟨c2, c3⟩ := (hp.below hnx hb) n hnl
                have eg : l.getD i (0, 0) = l[i] := by simp [hil]
                have eh : l.getD n (0, 0) = l[n] := by simp [hnl]
                rw [eg] at c0 c1
                rw [eh] at c2 c3
                clear eg eh
                have hne : ∀ h : ¬ (l[i].1 = l[n].1 ∧ l[i].2 = l[n].2), l[i] ∉ l.take (n + 1) := fun h => mem_take_succ' hnl HNM.out fun e => h ⟨by rw [e], by rw [e]⟩
                have heq : ∀ h : l[i].1 = l[n].1 ∧ l[i].2 = l[n].2, ¬ l.Nodup := fun h => not_nodup_at hil hni (Prod.ext h.1 h.2)
                generalize l[i].1 = ix at c0 hne heq
                generalize l[i].2 = iy at c1 hne heq
                generalize l[n].1 = nx at c2 hne heq
                generalize l[n].2 = ny at c3 hne heq
                have x0 : (0 : Int) ≤ (i : Int) := by omega
                have x1 : (i : Int) < (l.length : Int) := by omega
                have x2 : (0 : Int) ≤ (n : Int) := by omega
                have x3 : (n : Int) < (l.length : Int) := by omega
                have x4 : IntKind.i64.wrap ((n : Int) + 1) = (n : Int) + 1 := wrap_id (by omega) (by omega)
                clear hp
                by_cases e1 : ix = nx
                · by_cases e2 : iy = ny
                  · subst e1 e2
                    have HD : Hid (¬ l.Nodup) := heq ⟨rfl, rfl⟩
                    clear heq hne
                    go_wp2_with fail
                    go_quiet (fail)
                    go_wp2
                    go_ret
                    exact ⟨by rw [fault_twice' h60 HNO.out HD.out]; rfl, below_drewN hnx⟩
                  · have HD : Hid (l[i] ∉ l.take (n + 1)) := hne fun h => e2 h.2
                    clear heq hne
                    go_wp2_with fail
                    go_quiet (fail)
                    go_wp2
                    go_roundw
                    case rel => exact ⟨n + 1, by omega, by go_num, HD.out, below_drewN hnx⟩
                    case measure => simp [intOf]; omega
                · have HD : Hid (l[i] ∉ l.take (n + 1)) := hne fun h => e1 h.1
                  clear heq hne
                  go_wp2_with fail
                  go_quiet (fail)
                  go_wp2
                  go_roundw
                  case rel => exact ⟨n + 1, by omega, by go_num, HD.out, below_drewN hnx⟩
                  case measure => simp [intOf]; omega
              · have en : n = i := by omega
                subst en
                go_wp2
                go_roundw
                case rel => exact ⟨n + 1, by omega, by go_num, take_succ_nodup hil HND.out HNM.out, hnx⟩
                case measure => simp [intOf]; omega
          · have HD : Hid (l.Nodup) := by have := HND.out; rwa [List.take_of_length_le (by omega)] at this
            go_wp2
            go_ret
            exact ⟨by rw [fault_none' h60 HNO.out HD.out]; rfl, hnx⟩

end Go.Proofs.YtgpapegpdfonpaaGreatDoor

namespace Go.Proofs.YtgpapegpdfonpaaGreatDoor
set_option linter.unusedVariables false
set_option linter.unusedSimpArgs false
open Go.RowKit
attribute [local go_sem ↓] Go.wp_at_zero Go.wp_at_succ

set_option maxHeartbeats 800000 in
theorem rhull_fault (a : Option Addr) (cap : Nat) (l : List Pt) (w : World) (hr : RawAt w a l) (hf : faultN l ≠ 0) :
    Calls Tryz.prog 44 #[.slice a l.length cap] w fun e w' => e = .returned (.tuple #[.slice none 0 0, .int .i64 (faultN l)]) ∧ Below w.heap.size w w' := by
  have HF := check_any a cap l w hr
  have hf' : (faultN l != 0) = true := by simpa using hf
  clear hr hf
  generalize faultN l = f at *
  go_enter Tryz.func44, Tryz.ntmps44
  go_wp2_with (go_at_call 48; refine HF.mono ?_; rintro e w1 ⟨rfl, hb1⟩)
  go_ret2
  exact ⟨rfl, hb1⟩

set_option maxHeartbeats 800000 in
theorem rhull_none (a : Option Addr) (cap : Nat) (w : World) :
    Calls Tryz.prog 44 #[.slice a 0 cap] w fun e w' => e = .returned (.tuple #[.slice none 0 0, .int .i64 0]) ∧ Below w.heap.size w w' := by
  have HF := check_any a cap [] w (.inl rfl)
  have hf : faultN [] = 0 := rfl
  rw [hf] at HF
  simp only [List.length_nil] at HF
  go_enter Tryz.func44, Tryz.ntmps44
  go_wp2_with (go_at_call 48; refine HF.mono ?_; rintro e w1 ⟨rfl, hb1⟩)
  go_ret2
  exact ⟨rfl, hb1⟩

def encB (b : Option Nat) : Value := match b with
  | none => .int .i64 (-1)
  | some i => .int .i64 (i : Int)

theorem own_lit1 (w : World) (x : Nat) (T : TypeId) : (w.alloc (.cells #[.int .i64 (x : Int)] T)).ownsRow w.heap.size T 1 (.slice (some ⟨w.heap.size, 0, none⟩) 1 1) 1 [toV x] :=
  ⟨rfl, .inr ⟨w.heap.size, 1, #[.int .i64 (x : Int)], rfl, Nat.le_refl _, heap_alloc_new w _, Nat.le_refl _, by unfold maxLen; omega, rfl, rfl⟩⟩

theorem sg_neg {n : Int} (h : n < 0) : sg n = -1 := by unfold sg; rw [if_neg (by omega), if_pos h]
theorem sg_zero {n : Int} (h : n = 0) : sg n = 0 := by unfold sg; rw [if_neg (by omega), if_neg (by omega)]
theorem sg_posE {n : Int} (h : 0 < n) : sg n = 1 := by unfold sg; rw [if_pos h]

set_option maxHeartbeats 20000000 in
set_option maxRecDepth 100000 in
theorem rhull_any (b off cap : Nat) (l : List Pt) (is : List Nat) (n : Nat) (w : World) (hn : l.length = n + 1) (hb : b < w.heap.size) (hp : PtsAt w b off l) (hf : faultN l = 0) (hio : InOrder l is) :
    Calls Tryz.prog 44 #[.slice (some ⟨b, off, none⟩) l.length cap] w fun e w' =>
      ∃ v, e = .returned (.tuple #[v, .int .i64 0]) ∧ w'.ownsRow w.heap.size 3 1 v (cornersN l is).length ((cornersN l is).map toV) ∧ Below w.heap.size w w' := by
  obtain ⟨hl, hfar, hnd⟩ := fault_zero hf
  have hnear := near_of_far hfar
  have HCk := check_any (some ⟨b, off, none⟩) cap l w (.inr ⟨b, off, rfl, hb, hp⟩)
  rw [hf] at HCk
  have hA := arr_of hio hnd
  have hcn := cornersN_nodup hio hnd
  obtain ⟨i0, hi0, hz0, hz1, hz2⟩ := info_parts info3
  generalize cornersN l is = c at *
  have HFIRST : Hid (leastN l l.length = c.getD 0 0) := leastN_first hA hnd (by omega)
  have HA : Hid (Arr l c) := hA
  have HN : Hid (l.Nodup ∧ c.Nodup ∧ AllNear l) := ⟨hnd, hcn, hnear⟩
  have hlp : 0 < l.length := by omega
  have hcl := hA.le
  have hcp := hA.one hlp
  have l60 : (l.length : Int) ≤ 60 := by omega
  clear hf hfar hnd hnear hA hcn hio hn
  have hl0 : ((l.length : Int) == 0) = false := beq_eq_false_iff_ne.2 (by omega)
  go_enter Tryz.func44, Tryz.ntmps44
  go_wp2_with (go_at_call 48; refine HCk.mono ?_; rintro e w1 ⟨rfl, hb1⟩)
  have hp1 := hp.below hb1 hb
  have hb01 : b < w1.heap.size := Nat.lt_of_lt_of_le hb hb1.size
  have HPW : Hid (PtsAt w b off l) := hp
  clear HCk hp hl0
  go_loopw [5, 6] (fun f i wr => ∃ k : Nat, 1 ≤ k ∧ k ≤ l.length ∧ i = .int .i64 k ∧ f = .int .i64 (leastN l k : Nat) ∧ Below w1.heap.size w1 wr) (fun _ i _ => l.length - (intOf i).toNat)
  case atStart => exact ⟨1, by omega, hlp, rfl, rfl, Below.refl _ _⟩
  case round =>
    obtain ⟨k, hk1, hk, rfl, rfl, hnx⟩ := hrel
    by_cases hlt : k < l.length
    · obtain ⟨c0, c1⟩ := (hp1.below hnx hb01) k hlt
      have hfl := (leastN_ok l k hk1).1
      obtain ⟨c2, c3⟩ := (hp1.below hnx hb01) (leastN l k) (by omega)
      have HS := leastN_succ l k hk1
      have e1 : ptAt l k = ((l.getD k (0, 0)).1, (l.getD k (0, 0)).2) := rfl
      have e2 : ptAt l (leastN l k) = ((l.getD (leastN l k) (0, 0)).1, (l.getD (leastN l k) (0, 0)).2) := rfl
      rw [e1, e2] at HS
      clear e1 e2
      generalize (l.getD k (0, 0)).1 = kx at *
      generalize (l.getD k (0, 0)).2 = ky at *
      generalize (l.getD (leastN l k) (0, 0)).1 = fx at *
      generalize (l.getD (leastN l k) (0, 0)).2 = fy at *
      have F := fun W => rless_any kx ky fx fy W
      have HSH : Hid (leastN l (k + 1) = if decide (plt (kx, ky) (fx, fy)) = true then k else leastN l k) := HS
      clear HS
      generalize leastN l k = f at *
      have x0 : (0 : Int) ≤ (k : Int) := by omega
      have x1 : (k : Int) < (l.length : Int) := by omega
      have x2 : (0 : Int) ≤ (f : Int) := by omega
      have x3 : (f : Int) < (l.length : Int) := by omega
      have x4 : IntKind.i64.wrap ((k : Int) + 1) = (k : Int) + 1 := wrap_id (by omega) (by omega)
      have zb := Nat.lt_of_lt_of_le hb01 hnx.size
      clear hp1
      cases hd : decide (plt (kx, ky) (fx, fy)) with
      | true =>
        rw [hd] at F
        have HQ : Hid (leastN l (k + 1) = k) := by have := HSH.out; rw [hd, if_pos rfl] at this; exact this
        clear HSH hd
        go_wp2_with fail
        go_region_held3 (fun w' => Below wr.heap.size wr w' ∧ ∀ b o, b < wr.heap.size → w'.cell? ⟨b, o, none⟩ = wr.cell? ⟨b, o, none⟩) (first | exact keep0 _ | exact keep1 (by assumption) hb1)
          (first | (go_at_call 90; refine (F _).mono ?_; rintro e w' ⟨rfl, hb1⟩))
        rename_i hS
        have hR := hnx.trans (hS.1.mono hnx.size)
        clear hS hb1 c0 c1 c2 c3
        go_wp2
        go_roundw
        case rel => exact ⟨k + 1, by omega, by omega, by go_num, by rw [HQ.out], hR⟩
        case measure => simp [intOf]; omega
      | false =>
        rw [hd] at F
        have HQ : Hid (leastN l (k + 1) = f) := by have := HSH.out; rw [hd, if_neg (by simp)] at this; exact this
        clear HSH hd
        go_wp2_with fail
        go_region_held3 (fun w' => Below wr.heap.size wr w' ∧ ∀ b o, b < wr.heap.size → w'.cell? ⟨b, o, none⟩ = wr.cell? ⟨b, o, none⟩) (first | exact keep0 _ | exact keep1 (by assumption) hb1)
          (first | (go_at_call 90; refine (F _).mono ?_; rintro e w' ⟨rfl, hb1⟩))
        rename_i hS
        have hR := hnx.trans (hS.1.mono hnx.size)
        clear hS hb1 c0 c1 c2 c3
        go_wp2
        go_roundw
        case rel => exact ⟨k + 1, by omega, by omega, by go_num, by rw [HQ.out], hR⟩
        case measure => simp [intOf]; omega
    · have ek : k = l.length := by omega
      subst ek
      rw [HFIRST.out]
      have hbW := hb1.trans (hnx.mono hb1.size)
      have hpR := hp1.below hnx hb01
      have hbR := Nat.lt_of_lt_of_le hb01 hnx.size
      have e0 : c.take 1 = [c.getD 0 0] := by
        match c, hcp with
        | x :: t, _ => simp
      have hown0 := own_lit1 wr (c.getD 0 0) 3
      have hbN := (hbW.alloc hbW.size (.cells #[.int .i64 ((c.getD 0 0 : Nat) : Int)] 3))
      have hpN : PtsAt (wr.alloc (.cells #[.int .i64 ((c.getD 0 0 : Nat) : Int)] 3)) b off l := hpR.below (below1 _ _) hbR
      have HFST : Hid (∀ j, j < c.length → (c.getD j 0 = c.getD 0 0 ↔ j = 0)) := fun j hj => by
        constructor
        · intro e
          have h1 : c.getD j 0 = c[j] := by simp [hj]
          have h2 : c.getD 0 0 = c[0] := by simp [hcp]
          rw [h1, h2] at e
          exact nodup_inj HN.out.2.1 hj hcp e
        · intro e; rw [e]
      have HE0 : Hid (c.take 1 = [c.getD 0 0]) := e0
      have HL0 : Hid (c.getD 0 0 < l.length) := HA.out.lt 0 hcp
      clear e0 hpR hp1 hnx hb1
      generalize hfst : c.getD 0 0 = fst at *
      have HF0 : Hid (c.getD 0 0 = fst) := hfst
      clear hfst HFIRST
      go_wp2_with fail
      have hown1 : (wr.alloc (.cells #[.int .i64 (fst : Int)] 3)).ownsRow w.heap.size 3 1 (.slice (some ⟨wr.heap.size, 0, none⟩) 1 1) (c.take 1).length ((c.take 1).map toV) := by
        rw [HE0.out]; exact own_mono hown0 hbW.size
      have hbNs : b < (wr.alloc (.cells #[.int .i64 (fst : Int)] 3)).heap.size := by simp; omega
      have hWN : w.heap.size ≤ (wr.alloc (.cells #[.int .i64 (fst : Int)] 3)).heap.size := hbN.size
      clear hown0 hbW hbR
      generalize hWW : wr.alloc (.cells #[.int .i64 (fst : Int)] 3) = W at *
      generalize wr.heap.size = wz at *
      clear hWW
      go_loopw [8, 9] (fun v a wr => ∃ j : Nat, j < c.length ∧ a = .int .i64 (c.getD j 0 : Nat) ∧ wr.ownsRow w.heap.size 3 1 v (c.take (j + 1)).length ((c.take (j + 1)).map toV) ∧ Below w.heap.size w wr) (fun v _ _ => c.length + 1 - lenV v)
      case atStart => exact ⟨0, hcp, by rw [HF0.out], hown1, hbN⟩
      case round =>
        clear hown1 hbN hpN hbNs hWN
        obtain ⟨j, hj, rfl, hown, hnx⟩ := hrel
        have hlen : (c.take (j + 1)).length = j + 1 := by simp; omega
        rw [hlen] at hown
        rcases own_shape hown with ⟨_, h0⟩ | ⟨gv, cv, rfl⟩
        · omega
        have HLEN : Hid ((c.take (j + 1)).length = j + 1) := hlen
        clear hlen
        have haj := HA.out.lt j hj
        have HAJ : Hid (∀ h1 : 1 < c.length, Tgt l (c.getD j 0) (c.getD ((j + 1) % c.length) 0)) := fun h1 => tgt_of HA.out HN.out.2.1 h1 hj
        have HNEXT : Hid (j + 1 < c.length → c.take (j + 1 + 1) = c.take (j + 1) ++ [c.getD (j + 1) 0]) := fun h => by
          rw [List.take_succ_eq_append_getElem h]; simp [h]
        have HJF := HFST.out j hj
        generalize haa : c.getD j 0 = aa at *
        have j60 : (j : Int) + 1 ≤ (l.length : Int) := by omega
        have hd1 : decide ((j : Int) + 1 ≤ (l.length : Int)) = true := decide_eq_true j60
        have hdn : decide (j + 1 ≤ l.length) = true := decide_eq_true (by omega)
        go_wp2_with fail
        generalize wr = V at *
        have hpV := HPW.out.below hnx hb
        have hbV := Nat.lt_of_lt_of_le hb hnx.size
        go_loopw [10, 11] (fun bs i wr => ∃ k : Nat, k ≤ l.length ∧ i = .int .i64 k ∧ bs = encB (scan l aa k) ∧ Below V.heap.size V wr) (fun _ i _ => l.length - (intOf i).toNat)
        case atStart => exact ⟨0, Nat.zero_le _, rfl, rfl, Below.refl _ _⟩
        case round =>
          obtain ⟨k, hk, rfl, rfl, hbk⟩ := hrel
          by_cases hkl : k < l.length
          · have x0 : (0 : Int) ≤ (k : Int) := by omega
            have x1 : (k : Int) < (l.length : Int) := by omega
            have x4 : IntKind.i64.wrap ((k : Int) + 1) = (k : Int) + 1 := wrap_id (by omega) (by omega)
            by_cases hka : k = aa
            · have HS : Hid (encB (scan l aa (k + 1)) = encB (scan l aa k)) := by rw [scan_succ]; unfold nextBest; rw [if_pos hka]; exact rfl
              generalize encB (scan l aa k) = eb at *
              have hke : ((k : Int) == (aa : Int)) = true := by rw [hka]; simp
              go_wp2
              go_roundw
              case rel => exact ⟨k + 1, by omega, by go_num, HS.out.symm, hbk⟩
              case measure => simp [intOf]; omega
            · have hke : ((k : Int) == (aa : Int)) = false := beq_eq_false_iff_ne.2 (by omega)
              have HS : Hid (scan l aa (k + 1) = match scan l aa k with | none => some k | some b => if betterB (ptAt l aa) (ptAt l b) (ptAt l k) = true then some k else some b) := by rw [scan_succ]; unfold nextBest; rw [if_neg hka]; exact rfl
              have hsb := scan_bd l aa k (by omega)
              cases hsc : scan l aa k with
              | none =>
                have HS2 : Hid (scan l aa (k + 1) = some k) := by have := HS.out; rw [hsc] at this; exact this
                clear hsb hsc HS
                simp only [encB]
                go_wp2
                go_roundw
                case rel => exact ⟨k + 1, by omega, by go_num, (congrArg encB HS2.out).symm, hbk⟩
                case measure => simp [intOf]; omega
              | some bb =>
                have HS2 : Hid (scan l aa (k + 1) = if betterB (ptAt l aa) (ptAt l bb) (ptAt l k) = true then some k else some bb) := by have := HS.out; rw [hsc] at this; exact this
                obtain ⟨hba, hbk2⟩ := hsb bb hsc
                clear hsb hsc HS
                simp only [encB]
                obtain ⟨c0, c1⟩ := (hpV.below hbk hbV) aa haj
                obtain ⟨c2, c3⟩ := (hpV.below hbk hbV) bb (by omega)
                obtain ⟨c4, c5⟩ := (hpV.below hbk hbV) k hkl
                have nA : Near (l.getD aa (0, 0)).1 (l.getD aa (0, 0)).2 := HN.out.2.2 aa haj
                have nB : Near (l.getD bb (0, 0)).1 (l.getD bb (0, 0)).2 := HN.out.2.2 bb (by omega)
                have nQ : Near (l.getD k (0, 0)).1 (l.getD k (0, 0)).2 := HN.out.2.2 k hkl
                have HB := HS2.out
                have e1 : ptAt l aa = ((l.getD aa (0, 0)).1, (l.getD aa (0, 0)).2) := rfl
                have e2 : ptAt l bb = ((l.getD bb (0, 0)).1, (l.getD bb (0, 0)).2) := rfl
                have e3 : ptAt l k = ((l.getD k (0, 0)).1, (l.getD k (0, 0)).2) := rfl
                rw [e1, e2, e3] at HB
                clear e1 e2 e3 HS2
                generalize (l.getD aa (0, 0)).1 = ax at *
                generalize (l.getD aa (0, 0)).2 = ay at *
                generalize (l.getD bb (0, 0)).1 = bx at *
                generalize (l.getD bb (0, 0)).2 = by' at *
                generalize (l.getD k (0, 0)).1 = qx at *
                generalize (l.getD k (0, 0)).2 = qy at *
                have HBH : Hid (scan l aa (k + 1) = if betterB (ax, ay) (bx, by') (qx, qy) = true then some k else some bb) := HB
                clear HB
                have SC := fun W => rside_any ax ay bx by' qx qy W nA nB nQ
                have eS : sideN ax ay bx by' qx qy = sd (ax, ay) (bx, by') (qx, qy) := rfl
                rw [eS] at SC
                have HBT : Hid (betterB (ax, ay) (bx, by') (qx, qy) = (decide (sd (ax, ay) (bx, by') (qx, qy) < 0) || (decide (sd (ax, ay) (bx, by') (qx, qy) = 0) && decide (dst (ax, ay) (bx, by') < dst (ax, ay) (qx, qy))))) := rfl
                generalize sd (ax, ay) (bx, by') (qx, qy) = S at *
                generalize hdb : dst (ax, ay) (bx, by') = db at *
                generalize hdq : dst (ax, ay) (qx, qy) = dq at *
                generalize betterB (ax, ay) (bx, by') (qx, qy) = bt at *
                have x2 : (0 : Int) ≤ (aa : Int) := by omega
                have x3 : (aa : Int) < (l.length : Int) := by omega
                have x5 : (0 : Int) ≤ (bb : Int) := by omega
                have x6 : (bb : Int) < (l.length : Int) := by omega
                have zb := Nat.lt_of_lt_of_le hbV hbk.size
                have HDB : Hid (dst (ax, ay) (bx, by') = db) := hdb
                have HDQ : Hid (dst (ax, ay) (qx, qy) = dq) := hdq
                clear eS hdb hdq
                go_wp2_with fail
                go_region_held3 (fun w' => Below wr.heap.size wr w' ∧ ∀ b o, b < wr.heap.size → w'.cell? ⟨b, o, none⟩ = wr.cell? ⟨b, o, none⟩) (first | exact keep0 _ | exact keep1 (by assumption) hb1)
                  (first | (go_at_call 87; refine (SC _).mono ?_; rintro e w' ⟨rfl, hb1⟩))
                rename_i hS
                have hR := hbk.trans (hS.1.mono hbk.size)
                replace c0 := (hS.2 b _ zb).trans c0
                replace c1 := (hS.2 b _ zb).trans c1
                replace c2 := (hS.2 b _ zb).trans c2
                replace c3 := (hS.2 b _ zb).trans c3
                replace c4 := (hS.2 b _ zb).trans c4
                replace c5 := (hS.2 b _ zb).trans c5
                replace zb := Nat.lt_of_lt_of_le zb hS.1.size
                clear hS hb1 hbk SC
                generalize w' = wr at *
                rcases Int.lt_trichotomy S 0 with hs | hs | hs
                · rw [sg_neg hs]
                  have HB2 : Hid (scan l aa (k + 1) = some k) := by
                    have := HBH.out
                    rw [HBT.out, decide_eq_true hs, Bool.true_or, if_pos rfl] at this
                    exact this
                  clear HBH HBT
                  go_wp2_with fail
                  go_quiet (fail)
                  go_wp2
                  go_roundw
                  case rel => exact ⟨k + 1, by omega, by go_num, (congrArg encB HB2.out).symm, below_drewN hR⟩
                  case measure => simp [intOf]; omega
                · rw [sg_zero hs]
                  by_cases hdd : db < dq
                  · have HB2 : Hid (scan l aa (k + 1) = some k) := by
                      have := HBH.out
                      rw [HBT.out, decide_eq_false (p := S < 0) (by omega), decide_eq_true hs, decide_eq_true hdd, if_pos (by simp)] at this
                      exact this
                    have hdt : decide (db < dq) = true := decide_eq_true hdd
                    clear HBH HBT
                    go_wp2_with fail
                    go_region_held3 (fun w' => Below wr.heap.size wr w' ∧ ∀ b o, b < wr.heap.size → w'.cell? ⟨b, o, none⟩ = wr.cell? ⟨b, o, none⟩) (first | exact keep0 _ | exact keep1 (by assumption) hb1)
                      (first | (go_at_call 91; refine (rdist_any _ _ _ _ _ (by assumption) (by assumption)).mono ?_; rintro e w' ⟨rfl, hb1⟩; first | rw [HDQ.out] | rw [HDB.out]))
                    rename_i hS
                    have hR2 := hR.trans (hS.1.mono hR.size)
                    clear hS hb1
                    go_wp2
                    go_roundw
                    case rel => exact ⟨k + 1, by omega, by go_num, (congrArg encB HB2.out).symm, hR2⟩
                    case measure => simp [intOf]; omega
                  · have HB2 : Hid (scan l aa (k + 1) = some bb) := by
                      have := HBH.out
                      rw [HBT.out, decide_eq_false (p := S < 0) (by omega), decide_eq_true hs, decide_eq_false hdd, if_neg (by simp)] at this
                      exact this
                    have hdt : decide (db < dq) = false := decide_eq_false hdd
                    clear HBH HBT
                    go_wp2_with fail
                    go_region_held3 (fun w' => Below wr.heap.size wr w' ∧ ∀ b o, b < wr.heap.size → w'.cell? ⟨b, o, none⟩ = wr.cell? ⟨b, o, none⟩) (first | exact keep0 _ | exact keep1 (by assumption) hb1)
                      (first | (go_at_call 91; refine (rdist_any _ _ _ _ _ (by assumption) (by assumption)).mono ?_; rintro e w' ⟨rfl, hb1⟩; first | rw [HDQ.out] | rw [HDB.out]))
                    rename_i hS
                    have hR2 := hR.trans (hS.1.mono hR.size)
                    clear hS hb1
                    go_wp2
                    go_roundw
                    case rel => exact ⟨k + 1, by omega, by go_num, (congrArg encB HB2.out).symm, hR2⟩
                    case measure => simp [intOf]; omega
                · rw [sg_posE hs]
                  have HB2 : Hid (scan l aa (k + 1) = some bb) := by
                    have := HBH.out
                    rw [HBT.out, decide_eq_false (p := S < 0) (by omega), decide_eq_false (p := S = 0) (by omega), if_neg (by simp)] at this
                    exact this
                  clear HBH HBT
                  go_wp2_with fail
                  go_quiet (fail)
                  go_wp2
                  go_roundw
                  case rel => exact ⟨k + 1, by omega, by go_num, (congrArg encB HB2.out).symm, below_drewN hR⟩
                  case measure => simp [intOf]; omega
          · have ek : k = l.length := by omega
            subst ek
            have hownR := own_below hown hbk
            have hbA := hnx.trans (hbk.mono hnx.size)
            clear hown hnx hbk hpV hbV
            by_cases h1 : 1 < c.length
            · have T := HAJ.out h1
              have hsc := scan_tgt T HN.out.1 l.length T.lt (Nat.le_refl _)
              rw [hsc]
              simp only [encB]
              by_cases hend : j + 1 = c.length
              · have hm : (j + 1) % c.length = 0 := by rw [hend, Nat.mod_self]
                have HTK : Hid (c.take (j + 1) = c) := List.take_of_length_le (by omega)
                rw [hm, HF0.out]
                have HCL : Hid (j + 1 = c.length) := hend
                clear T hsc hm hend
                have y0 : decide ((fst : Int) < 0) = false := decide_eq_false (by omega)
                go_wp2
                go_ret2
                refine ⟨_, rfl, ?_, hbA⟩
                have := hownR
                rw [HTK.out, HCL.out] at this
                rw [HCL.out]
                exact this
              · have hm : (j + 1) % c.length = j + 1 := Nat.mod_eq_of_lt (by omega)
                rw [hm]
                have hj1 : j + 1 < c.length := by omega
                have HTK : Hid (c.take (j + 1 + 1) = c.take (j + 1) ++ [c.getD (j + 1) 0]) := HNEXT.out hj1
                have hne : c.getD (j + 1) 0 ≠ fst := fun e => by
                  have := (HFST.out (j + 1) hj1).1 e
                  omega
                clear T hsc hm hend HNEXT
                have HT1 : Hid (c.getD (j + 1) 0 = c.getD (j + 1) 0) := rfl
                generalize htt : c.getD (j + 1) 0 = tt at *
                have HTT : Hid (c.getD (j + 1) 0 = tt) := htt
                clear htt HT1
                have y0 : decide ((tt : Int) < 0) = false := decide_eq_false (by omega)
                have y1 : ((tt : Int) == (fst : Int)) = false := beq_eq_false_iff_ne.2 (by omega)
                have y2 : ¬ tt = fst := hne
                have hws := hbA.size
                go_wp2_with (at_builtin; refine wpList_append_lies _ (by rfl) (.tmp 109) (.tmp 111) 26 (by rfl) w.heap.size 3 i0 (.int .i64 0) 1 8 Tryz.underlying26 hi0 hz0 hz1 hz2 rfl (by decide) _ _ _ (by rfl) (own_below hownR (below1 _ _)) ⟨wr.heap.size, 0, none⟩ 1 1 [.int .i64 tt] (by rfl) rfl ?c1 ?c2 (by decide) ?c3 ?c4 ?c5 (wr.heap.size + 1) ?c6 ?_)
                case c1 =>
                  intro j u hj
                  match j, hj with
                  | 0, hj => simp at hj; subst hj; simp [Addr.add]
                case c2 => intro u hu; simp at hu; subst hu; rfl
                case c3 => unfold maxLen; omega
                case c4 => omega
                case c5 => simp; omega
                case c6 => simp
                · intro g2 cap2 w3 hown3 hgrow hat hlt3
                  have R := chain_rel (toB := w.heap.size) hownR hbA hown3 hgrow hws
                  clear hown3 hgrow hownR hat
                  go_wp2
                  go_roundw
                  case rel => exact ⟨j + 1, hj1, by rw [HTT.out], by rw [HTK.out]; simpa [toV, HLEN.out] using R.1, R.2⟩
                  case measure => simp [lenV]; omega
            · have hc1 : c.length = 1 := by omega
              have hl1 : l.length = 1 := by
                have := HA.out.two
                omega
              have hj0 : j = 0 := by omega
              rw [scan_one l hl1 aa haj]
              simp only [encB]
              have HTK : Hid (c.take (j + 1) = c) := List.take_of_length_le (by omega)
              have hcl' : j + 1 = c.length := by omega
              have HCL : Hid (j + 1 = c.length) := hcl'
              clear hcl'
              clear hj0 hc1 hl1 h1
              go_wp2
              go_ret2
              refine ⟨_, rfl, ?_, hbA⟩
              have := hownR
              rw [HTK.out, HCL.out] at this
              rw [HCL.out]
              exact this

end Go.Proofs.YtgpapegpdfonpaaGreatDoor
