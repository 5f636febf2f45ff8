/-
  The document's own answer, its small functions: sign, Far, Side, Circle, Orient, InCircle, less, dist.
-/
import Derived.Test.YtgpapegpdfonpaaGreatDoorGives
import Derived.Test.YtgpapegpdfonpaaGreatDoorSidesMath
namespace Go.Proofs.YtgpapegpdfonpaaGreatDoor
set_option linter.unusedVariables false
set_option linter.unusedSimpArgs false
open Go.RowKit
attribute [local go_sem ↓] Go.wp_at_zero Go.wp_at_succ

set_option maxHeartbeats 400000 in
theorem rsign_any (n : Int) (w : World) :
    Calls Tryz.prog 118 #[.int .i64 n] w fun e w' => e = .returned (.int .i64 (sg n)) ∧ w' = w := by
  unfold sg
  by_cases h1 : 0 < n
  · rw [if_pos h1]
    go_enter Tryz.func118, Tryz.ntmps118
    go_wp2
    go_ret
    exact ⟨rfl, rfl⟩
  · rw [if_neg h1]
    by_cases h2 : n < 0
    · rw [if_pos h2]
      go_enter Tryz.func118, Tryz.ntmps118
      go_wp2
      go_ret
      exact ⟨rfl, rfl⟩
    · rw [if_neg h2]
      go_enter Tryz.func118, Tryz.ntmps118
      go_wp2
      go_ret
      exact ⟨rfl, rfl⟩

theorem farB_x1 {x y : Int} (h : 8000 < x) : farB x y = true := by
  cases hf : farB x y with
  | true => rfl
  | false => have := (farB_near hf).x2; omega
theorem farB_x2 {x y : Int} (h : x < -8000) : farB x y = true := by
  cases hf : farB x y with
  | true => rfl
  | false => have := (farB_near hf).x1; omega
theorem farB_y1 {x y : Int} (h : 8000 < y) : farB x y = true := by
  cases hf : farB x y with
  | true => rfl
  | false => have := (farB_near hf).y2; omega
theorem farB_y2 {x y : Int} (h : y < -8000) : farB x y = true := by
  cases hf : farB x y with
  | true => rfl
  | false => have := (farB_near hf).y1; omega

set_option maxHeartbeats 400000 in
theorem rfar_any (x y : Int) (w : World) :
    Calls Tryz.prog 63 #[.agg #[.int .i64 x, .int .i64 y]] w fun e w' => e = .returned (.bool (farB x y)) ∧ Below w.heap.size w w' := by
  by_cases h1 : 8000 < x
  · rw [farB_x1 h1]
    go_enter Tryz.func63, Tryz.ntmps63
    go_wp2
    go_ret
    exact ⟨rfl, below1 _ _⟩
  · have d1 : decide (8000 < x) = false := decide_eq_false h1
    by_cases h2 : x < -8000
    · rw [farB_x2 h2]
      go_enter Tryz.func63, Tryz.ntmps63
      go_wp2
      go_ret
      exact ⟨rfl, below1 _ _⟩
    · have d2 : decide (x < -8000) = false := decide_eq_false h2
      by_cases h3 : 8000 < y
      · rw [farB_y1 h3]
        go_enter Tryz.func63, Tryz.ntmps63
        go_wp2
        go_ret
        exact ⟨rfl, below1 _ _⟩
      · have d3 : decide (8000 < y) = false := decide_eq_false h3
        by_cases h4 : y < -8000
        · rw [farB_y2 h4]
          go_enter Tryz.func63, Tryz.ntmps63
          go_wp2
          go_ret
          exact ⟨rfl, below1 _ _⟩
        · have d4 : decide (y < -8000) = false := decide_eq_false h4
          rw [near_farB ⟨by omega, by omega, by omega, by omega⟩]
          go_enter Tryz.func63, Tryz.ntmps63
          go_wp2
          go_ret
          exact ⟨rfl, below1 _ _⟩

set_option maxHeartbeats 400000 in
theorem rside_any (ax ay bx by' cx cy : Int) (w : World) (a : Near ax ay) (b : Near bx by') (c : Near cx cy) :
    Calls Tryz.prog 87 #[.agg #[.int .i64 ax, .int .i64 ay], .agg #[.int .i64 bx, .int .i64 by'], .agg #[.int .i64 cx, .int .i64 cy]] w fun e w' =>
      e = .returned (.int .i64 (sg (sideN ax ay bx by' cx cy))) ∧ Below w.heap.size w w' := by
  obtain ⟨a1, a2, a3, a4⟩ := a; obtain ⟨b1, b2, b3, b4⟩ := b; obtain ⟨c1, c2, c3, c4⟩ := c
  have m1 := @mul_bd (bx - ax) (cy - ay) 16000 16000 (by omega) (by omega) (by omega) (by omega)
  have m2 := @mul_bd (by' - ay) (cx - ax) 16000 16000 (by omega) (by omega) (by omega) (by omega)
  unfold sideN
  go_enter Tryz.func87, Tryz.ntmps87
  go_wp2_with (go_at_call 118; refine (rsign_any _ _).mono ?_; rintro e w' ⟨rfl, rfl⟩)
  go_ret
  exact ⟨rfl, below3 _ _ _ _⟩

set_option maxHeartbeats 400000 in
theorem rdist_any (ax ay bx by' : Int) (w : World) (a : Near ax ay) (b : Near bx by') :
    Calls Tryz.prog 91 #[.agg #[.int .i64 ax, .int .i64 ay], .agg #[.int .i64 bx, .int .i64 by']] w fun e w' =>
      e = .returned (.int .i64 (dst (ax, ay) (bx, by'))) ∧ Below w.heap.size w w' := by
  obtain ⟨a1, a2, a3, a4⟩ := a; obtain ⟨b1, b2, b3, b4⟩ := b
  have m1 := @mul_bd (ax - bx) (ax - bx) 16000 16000 (by omega) (by omega) (by omega) (by omega)
  have m2 := @mul_bd (ay - by') (ay - by') 16000 16000 (by omega) (by omega) (by omega) (by omega)
  unfold dst
  simp only
  go_enter Tryz.func91, Tryz.ntmps91
  go_wp2
  go_ret
  exact ⟨rfl, below2 _ _ _⟩

set_option maxHeartbeats 400000 in
theorem rless_any (ax ay bx by' : Int) (w : World) :
    Calls Tryz.prog 90 #[.agg #[.int .i64 ax, .int .i64 ay], .agg #[.int .i64 bx, .int .i64 by']] w fun e w' =>
      e = .returned (.bool (decide (plt (ax, ay) (bx, by')))) ∧ Below w.heap.size w w' := by
  by_cases h1 : ax < bx
  · rw [decide_eq_true (p := plt (ax, ay) (bx, by')) (by unfold plt; simp only; omega)]
    go_enter Tryz.func90, Tryz.ntmps90
    go_wp2
    go_ret
    exact ⟨rfl, below2 _ _ _⟩
  · have d1 : decide (ax < bx) = false := decide_eq_false h1
    by_cases h2 : ax = bx
    · subst h2
      by_cases h3 : ay < by'
      · rw [decide_eq_true (p := plt (ax, ay) (ax, by')) (.inr ⟨rfl, h3⟩)]
        go_enter Tryz.func90, Tryz.ntmps90
        go_wp2
        go_ret
        exact ⟨rfl, below2 _ _ _⟩
      · rw [decide_eq_false (p := plt (ax, ay) (ax, by')) (by unfold plt; simp only; omega)]
        have d3 : decide (ay < by') = false := decide_eq_false h3
        go_enter Tryz.func90, Tryz.ntmps90
        go_wp2
        go_ret
        exact ⟨rfl, below2 _ _ _⟩
    · rw [decide_eq_false (p := plt (ax, ay) (bx, by')) (by unfold plt; simp only; omega)]
      have d2 : (ax == bx) = false := beq_eq_false_iff_ne.2 h2
      go_enter Tryz.func90, Tryz.ntmps90
      go_wp2
      go_ret
      exact ⟨rfl, below2 _ _ _⟩

set_option maxHeartbeats 1000000 in
theorem rcircle_any (ax ay bx by' cx cy dx dy : Int) (w : World) (a : Near ax ay) (b : Near bx by') (c : Near cx cy) (d : Near dx dy) :
    Calls Tryz.prog 88 #[.agg #[.int .i64 ax, .int .i64 ay], .agg #[.int .i64 bx, .int .i64 by'], .agg #[.int .i64 cx, .int .i64 cy], .agg #[.int .i64 dx, .int .i64 dy]] w fun e w' =>
      e = .returned (.int .i64 (sg (sideN ax ay bx by' cx cy) * sg (circN ax ay bx by' cx cy dx dy))) ∧ Below w.heap.size w w' := by
  have ha := a; have hb := b; have hc := c
  obtain ⟨a1, a2, a3, a4⟩ := a; obtain ⟨b1, b2, b3, b4⟩ := b; obtain ⟨c1, c2, c3, c4⟩ := c; obtain ⟨d1, d2, d3, d4⟩ := d
  unfold circN
  have B1 : -16000 ≤ ax - dx ∧ ax - dx ≤ 16000 := by omega
  have B2 : -16000 ≤ ay - dy ∧ ay - dy ≤ 16000 := by omega
  have B3 : -16000 ≤ bx - dx ∧ bx - dx ≤ 16000 := by omega
  have B4 : -16000 ≤ by' - dy ∧ by' - dy ≤ 16000 := by omega
  have B5 : -16000 ≤ cx - dx ∧ cx - dx ≤ 16000 := by omega
  have B6 : -16000 ≤ cy - dy ∧ cy - dy ≤ 16000 := by omega
  have HS := fun W => rside_any ax ay bx by' cx cy W ha hb hc
  have hsb := sg_bd (sideN ax ay bx by' cx cy)
  generalize sg (sideN ax ay bx by' cx cy) = S at *
  have v1 := wrap_id (n := ax - dx) (by omega) (by omega)
  have v2 := wrap_id (n := ay - dy) (by omega) (by omega)
  have v3 := wrap_id (n := bx - dx) (by omega) (by omega)
  have v4 := wrap_id (n := by' - dy) (by omega) (by omega)
  have v5 := wrap_id (n := cx - dx) (by omega) (by omega)
  have v6 := wrap_id (n := cy - dy) (by omega) (by omega)
  go_enter Tryz.func88, Tryz.ntmps88
  go_wp2_with (go_at_call 87; refine (HS _).mono ?_; rintro e w1 ⟨rfl, hb1⟩)
  have hw1 : Below w.heap.size w w1 := (below4 _ _ _ _ _).trans (hb1.mono (by simp; omega))
  have k0 : w1.cell? ⟨w.heap.size, 0, none⟩ = some (.int .i64 ax) := (hb1.cell (p := ⟨w.heap.size, 0, none⟩) (by simp; omega)).trans (by simp [go_sem])
  have k1 : w1.cell? ⟨w.heap.size, 1, none⟩ = some (.int .i64 ay) := (hb1.cell (p := ⟨w.heap.size, 1, none⟩) (by simp; omega)).trans (by simp [go_sem])
  have k2 : w1.cell? ⟨w.heap.size + 1, 0, none⟩ = some (.int .i64 bx) := (hb1.cell (p := ⟨w.heap.size + 1, 0, none⟩) (by simp)).trans (by simp [go_sem])
  have k3 : w1.cell? ⟨w.heap.size + 1, 1, none⟩ = some (.int .i64 by') := (hb1.cell (p := ⟨w.heap.size + 1, 1, none⟩) (by simp)).trans (by simp [go_sem])
  have k4 : w1.cell? ⟨w.heap.size + 1 + 1, 0, none⟩ = some (.int .i64 cx) := (hb1.cell (p := ⟨w.heap.size + 1 + 1, 0, none⟩) (by simp)).trans (by rw [World.cell?_alloc_past _ _ _ (by simp), World.cell?_alloc_at _ _ _ _ (by simp)]; rfl)
  have k5 : w1.cell? ⟨w.heap.size + 1 + 1, 1, none⟩ = some (.int .i64 cy) := (hb1.cell (p := ⟨w.heap.size + 1 + 1, 1, none⟩) (by simp)).trans (by rw [World.cell?_alloc_past _ _ _ (by simp), World.cell?_alloc_at _ _ _ _ (by simp)]; rfl)
  have k6 : w1.cell? ⟨w.heap.size + 1 + 1 + 1, 0, none⟩ = some (.int .i64 dx) := (hb1.cell (p := ⟨w.heap.size + 1 + 1 + 1, 0, none⟩) (by simp)).trans (by rw [World.cell?_alloc_at _ _ _ _ (by simp)]; rfl)
  have k7 : w1.cell? ⟨w.heap.size + 1 + 1 + 1, 1, none⟩ = some (.int .i64 dy) := (hb1.cell (p := ⟨w.heap.size + 1 + 1 + 1, 1, none⟩) (by simp)).trans (by rw [World.cell?_alloc_at _ _ _ _ (by simp)]; rfl)
  clear hb1
  go_quiet (fail)
  go_wp2_with fail
  go_quiet (fail)
  go_wp2_with fail
  go_quiet (fail)
  clear k0 k1 k2 k3 k4 k5 k6 k7 v1 v2 v3 v4 v5 v6 HS
  generalize hs1 : ax - dx = s1 at *; generalize hs2 : ay - dy = s2 at *
  generalize ht1 : bx - dx = t1 at *; generalize ht2 : by' - dy = t2 at *
  generalize hu1 : cx - dx = u1 at *; generalize hu2 : cy - dy = u2 at *
  have HQ : Hid (ax - dx = s1 ∧ ay - dy = s2 ∧ bx - dx = t1 ∧ by' - dy = t2 ∧ cx - dx = u1 ∧ cy - dy = u2) := ⟨hs1, hs2, ht1, ht2, hu1, hu2⟩
  clear hs1 hs2 ht1 ht2 hu1 hu2
  have M : ∀ {x y : Int}, (-16000 ≤ x ∧ x ≤ 16000) → (-16000 ≤ y ∧ y ≤ 16000) → -256000000 ≤ x * y ∧ x * y ≤ 256000000 := fun {x y} hx hy => @mul_bd x y 16000 16000 (by omega) (by omega) (by omega) (by omega)
  have e1 := M B1 B1; have e2 := M B2 B2; have e3 := M B3 B6; have e4 := M B4 B5; have e5 := M B3 B3; have e6 := M B4 B4; have e7 := M B5 B2; have e8 := M B6 B1; have e9 := M B5 B5; have e10 := M B6 B6; have e11 := M B1 B4; have e12 := M B2 B3
  have g1 := sqcr_bd s1 s2 t1 t2 u1 u2 B1 B2 B3 B4 B5 B6
  have g2 := sqcr_bd t1 t2 u1 u2 s1 s2 B3 B4 B5 B6 B1 B2
  have g3 := sqcr_bd u1 u2 s1 s2 t1 t2 B5 B6 B1 B2 B3 B4
  have x1 := wrap_id (n := s1 * s1) (by omega) (by omega)
  have x2 := wrap_id (n := s2 * s2) (by omega) (by omega)
  have x3 := wrap_id (n := s1 * s1 + s2 * s2) (by omega) (by omega)
  have x4 := wrap_id (n := t1 * u2) (by omega) (by omega)
  have x5 := wrap_id (n := t2 * u1) (by omega) (by omega)
  have x6 := wrap_id (n := t1 * u2 - t2 * u1) (by omega) (by omega)
  have x7 := wrap_id (n := (s1 * s1 + s2 * s2) * (t1 * u2 - t2 * u1)) (by omega) (by omega)
  have x8 := wrap_id (n := t1 * t1) (by omega) (by omega)
  have x9 := wrap_id (n := t2 * t2) (by omega) (by omega)
  have x10 := wrap_id (n := t1 * t1 + t2 * t2) (by omega) (by omega)
  have x11 := wrap_id (n := u1 * s2) (by omega) (by omega)
  have x12 := wrap_id (n := u2 * s1) (by omega) (by omega)
  have x13 := wrap_id (n := u1 * s2 - u2 * s1) (by omega) (by omega)
  have x14 := wrap_id (n := (t1 * t1 + t2 * t2) * (u1 * s2 - u2 * s1)) (by omega) (by omega)
  have x15 := wrap_id (n := (s1 * s1 + s2 * s2) * (t1 * u2 - t2 * u1) + (t1 * t1 + t2 * t2) * (u1 * s2 - u2 * s1)) (by omega) (by omega)
  have x16 := wrap_id (n := u1 * u1) (by omega) (by omega)
  have x17 := wrap_id (n := u2 * u2) (by omega) (by omega)
  have x18 := wrap_id (n := u1 * u1 + u2 * u2) (by omega) (by omega)
  have x19 := wrap_id (n := s1 * t2) (by omega) (by omega)
  have x20 := wrap_id (n := s2 * t1) (by omega) (by omega)
  have x21 := wrap_id (n := s1 * t2 - s2 * t1) (by omega) (by omega)
  have x22 := wrap_id (n := (u1 * u1 + u2 * u2) * (s1 * t2 - s2 * t1)) (by omega) (by omega)
  have x23 := wrap_id (n := (s1 * s1 + s2 * s2) * (t1 * u2 - t2 * u1) + (t1 * t1 + t2 * t2) * (u1 * s2 - u2 * s1) + (u1 * u1 + u2 * u2) * (s1 * t2 - s2 * t1)) (by omega) (by omega)
  clear e1 e2 e3 e4 e5 e6 e7 e8 e9 e10 e11 e12 g1 g2 g3 M B1 B2 B3 B4 B5 B6
  have hfin : ∀ n : Int, IntKind.i64.wrap (S * sg n) = S * sg n := fun n => by
    have := sg_bd n
    have := @mul_bd S (sg n) 1 1 (by omega) (by omega) (by omega) (by omega)
    exact wrap_id (by omega) (by omega)
  go_wp2_with (go_at_call 118; refine (rsign_any _ _).mono ?_; rintro e w2 ⟨rfl, rfl⟩; have hf' := hfin ((s1 * s1 + s2 * s2) * (t1 * u2 - t2 * u1) + (t1 * t1 + t2 * t2) * (u1 * s2 - u2 * s1) + (u1 * u1 + u2 * u2) * (s1 * t2 - s2 * t1)))
  go_ret
  obtain ⟨rfl, rfl, rfl, rfl, rfl, rfl⟩ := HQ.out
  exact ⟨rfl, below_drewN hw1⟩

/-- points in blocks, one behind the other -/
structure Pts (W : World) (p : Nat) (l : List Pt) : Prop where
  cells : ∀ i, i < l.length → W.cell? ⟨p + i, 0, none⟩ = some (.int .i64 (l.getD i (0, 0)).1) ∧ W.cell? ⟨p + i, 1, none⟩ = some (.int .i64 (l.getD i (0, 0)).2)
  lt : p + l.length ≤ W.heap.size
theorem Pts.below {W W' : World} {p : Nat} {l : List Pt} (h : Pts W p l) (hb : Below W.heap.size W W') : Pts W' p l :=
  ⟨fun i hi => ⟨(hb.cell (p := ⟨p + i, 0, none⟩) (by have := h.lt; show p + i < _; omega)).trans (h.cells i hi).1, (hb.cell (p := ⟨p + i, 1, none⟩) (by have := h.lt; show p + i < _; omega)).trans (h.cells i hi).2⟩, Nat.le_trans h.lt hb.size⟩
theorem Pts.snoc {W : World} {p : Nat} {l : List Pt} (h : Pts W p l) (e : p + l.length = W.heap.size) (x y : Int) (T : TypeId) : Pts (W.alloc (.cells #[.int .i64 x, .int .i64 y] T)) p (l ++ [(x, y)]) := by
  refine ⟨fun i hi => ?_, by simp; omega⟩
  by_cases hl : i < l.length
  · have e1 : (l ++ [(x, y)]).getD i (0, 0) = l.getD i (0, 0) := by simp [List.getElem?_append_left hl]
    rw [e1, World.cell?_alloc_past _ _ _ (by show p + i < _; omega), World.cell?_alloc_past _ _ _ (by show p + i < _; omega)]
    exact h.cells i hl
  · have hi' : i = l.length := by simp at hi; omega
    subst hi'
    rw [World.cell?_alloc_at _ _ _ _ (by show p + l.length = _; omega), World.cell?_alloc_at _ _ _ _ (by show p + l.length = _; omega)]
    simp
theorem Pts.nil (W : World) : Pts W W.heap.size [] := ⟨fun i hi => by simp at hi, by simp⟩
theorem Pts.three (w : World) (ax ay bx by' cx cy : Int) (T : TypeId) : Pts (((w.alloc (.cells #[.int .i64 ax, .int .i64 ay] T)).alloc (.cells #[.int .i64 bx, .int .i64 by'] T)).alloc (.cells #[.int .i64 cx, .int .i64 cy] T)) w.heap.size [(ax, ay), (bx, by'), (cx, cy)] :=
  (((Pts.nil w).snoc (by simp) ax ay T).snoc (by simp) bx by' T).snoc (by simp) cx cy T
theorem Pts.four (w : World) (ax ay bx by' cx cy dx dy : Int) (T : TypeId) : Pts ((((w.alloc (.cells #[.int .i64 ax, .int .i64 ay] T)).alloc (.cells #[.int .i64 bx, .int .i64 by'] T)).alloc (.cells #[.int .i64 cx, .int .i64 cy] T)).alloc (.cells #[.int .i64 dx, .int .i64 dy] T)) w.heap.size [(ax, ay), (bx, by'), (cx, cy), (dx, dy)] :=
  (((((Pts.nil w).snoc (by simp) ax ay T).snoc (by simp) bx by' T).snoc (by simp) cx cy T)).snoc (by simp) dx dy T
theorem Pts.get3 {W : World} {p : Nat} {ax ay bx by' cx cy : Int} (h : Pts W p [(ax, ay), (bx, by'), (cx, cy)]) :
    (W.cell? ⟨p, 0, none⟩ = some (.int .i64 ax) ∧ W.cell? ⟨p, 1, none⟩ = some (.int .i64 ay)) ∧ (W.cell? ⟨p + 1, 0, none⟩ = some (.int .i64 bx) ∧ W.cell? ⟨p + 1, 1, none⟩ = some (.int .i64 by')) ∧ (W.cell? ⟨p + 1 + 1, 0, none⟩ = some (.int .i64 cx) ∧ W.cell? ⟨p + 1 + 1, 1, none⟩ = some (.int .i64 cy)) :=
  ⟨h.cells 0 (by simp), h.cells 1 (by simp), h.cells 2 (by simp)⟩
theorem Pts.get4 {W : World} {p : Nat} {ax ay bx by' cx cy dx dy : Int} (h : Pts W p [(ax, ay), (bx, by'), (cx, cy), (dx, dy)]) :
    (W.cell? ⟨p, 0, none⟩ = some (.int .i64 ax) ∧ W.cell? ⟨p, 1, none⟩ = some (.int .i64 ay)) ∧ (W.cell? ⟨p + 1, 0, none⟩ = some (.int .i64 bx) ∧ W.cell? ⟨p + 1, 1, none⟩ = some (.int .i64 by')) ∧ (W.cell? ⟨p + 1 + 1, 0, none⟩ = some (.int .i64 cx) ∧ W.cell? ⟨p + 1 + 1, 1, none⟩ = some (.int .i64 cy)) ∧ (W.cell? ⟨p + 1 + 1 + 1, 0, none⟩ = some (.int .i64 dx) ∧ W.cell? ⟨p + 1 + 1 + 1, 1, none⟩ = some (.int .i64 dy)) :=
  ⟨h.cells 0 (by simp), h.cells 1 (by simp), h.cells 2 (by simp), h.cells 3 (by simp)⟩

set_option maxHeartbeats 1000000 in
theorem rorient_any (ax ay bx by' cx cy : Int) (w : World) :
    Calls Tryz.prog 38 #[.agg #[.int .i64 ax, .int .i64 ay], .agg #[.int .i64 bx, .int .i64 by'], .agg #[.int .i64 cx, .int .i64 cy]] w fun e w' =>
      e = .returned (.tuple #[.int .i64 (if (farB ax ay || farB bx by' || farB cx cy) = true then 0 else sg (sideN ax ay bx by' cx cy)), .int .i64 (if (farB ax ay || farB bx by' || farB cx cy) = true then 1 else 0)]) ∧ Below w.heap.size w w' := by
  have HS := fun (h1 : farB ax ay = false) (h2 : farB bx by' = false) (h3 : farB cx cy = false) W => rside_any ax ay bx by' cx cy W (farB_near h1) (farB_near h2) (farB_near h3)
  have F1 := fun W => rfar_any ax ay W
  have F2 := fun W => rfar_any bx by' W
  have F3 := fun W => rfar_any cx cy W
  have T0 := Pts.three w ax ay bx by' cx cy 37
  have hb0 := below3 w (.cells #[.int .i64 ax, .int .i64 ay] 37) (.cells #[.int .i64 bx, .int .i64 by'] 37) (.cells #[.int .i64 cx, .int .i64 cy] 37)
  generalize sg (sideN ax ay bx by' cx cy) = S at *
  generalize farB ax ay = f1 at *
  generalize farB bx by' = f2 at *
  generalize farB cx cy = f3 at *
  go_enter Tryz.func38, Tryz.ntmps38
  go_upto_region 1 with fail
  generalize ((w.alloc (.cells #[.int .i64 ax, .int .i64 ay] 37)).alloc (.cells #[.int .i64 bx, .int .i64 by'] 37)).alloc (.cells #[.int .i64 cx, .int .i64 cy] 37) = W0 at *
  obtain ⟨⟨k0, k1⟩, ⟨k2, k3⟩, k4, k5⟩ := T0.get3
  go_upto_region 2 with (go_at_call 63; refine (F1 _).mono ?_; rintro e W1 ⟨rfl, hb1⟩)
  have T1 := T0.below hb1
  have B1 := hb0.trans (hb1.mono hb0.size)
  clear T0 hb0 hb1 k0 k1 k2 k3 k4 k5
  obtain ⟨⟨k0, k1⟩, ⟨k2, k3⟩, k4, k5⟩ := T1.get3
  go_upto_region 3 with (go_at_call 63; refine (F2 _).mono ?_; rintro e W2 ⟨rfl, hb1⟩)
  have T2 := T1.below hb1
  have B2 := B1.trans (hb1.mono B1.size)
  clear T1 B1 hb1 k0 k1 k2 k3 k4 k5
  obtain ⟨⟨k0, k1⟩, ⟨k2, k3⟩, k4, k5⟩ := T2.get3
  go_upto_region 4 with (go_at_call 63; refine (F3 _).mono ?_; rintro e W3 ⟨rfl, hb1⟩)
  have T3 := T2.below hb1
  have B3 := B2.trans (hb1.mono B2.size)
  clear T2 B2 hb1 k0 k1 k2 k3 k4 k5
  obtain ⟨⟨k0, k1⟩, ⟨k2, k3⟩, k4, k5⟩ := T3.get3
  cases f1 <;> cases f2 <;> cases f3
  · go_wp2_with (go_at_call 87; refine (HS rfl rfl rfl _).mono ?_; rintro e W4 ⟨rfl, hb1⟩)
    go_ret2
    exact ⟨rfl, B3.trans (hb1.mono B3.size)⟩
  all_goals
    go_wp2
    go_ret2
    exact ⟨rfl, B3⟩

set_option maxHeartbeats 2000000 in
theorem rinCircle_any (ax ay bx by' cx cy dx dy : Int) (w : World) :
    Calls Tryz.prog 41 #[.agg #[.int .i64 ax, .int .i64 ay], .agg #[.int .i64 bx, .int .i64 by'], .agg #[.int .i64 cx, .int .i64 cy], .agg #[.int .i64 dx, .int .i64 dy]] w fun e w' =>
      e = .returned (.tuple #[.int .i64 (if (farB ax ay || farB bx by' || farB cx cy || farB dx dy) = true then 0 else sg (sideN ax ay bx by' cx cy) * sg (circN ax ay bx by' cx cy dx dy)), .int .i64 (if (farB ax ay || farB bx by' || farB cx cy || farB dx dy) = true then 1 else 0)]) ∧ Below w.heap.size w w' := by
  have HS := fun (h1 : farB ax ay = false) (h2 : farB bx by' = false) (h3 : farB cx cy = false) (h4 : farB dx dy = false) W => rcircle_any ax ay bx by' cx cy dx dy W (farB_near h1) (farB_near h2) (farB_near h3) (farB_near h4)
  have F1 := fun W => rfar_any ax ay W
  have F2 := fun W => rfar_any bx by' W
  have F3 := fun W => rfar_any cx cy W
  have F4 := fun W => rfar_any dx dy W
  have T0 := Pts.four w ax ay bx by' cx cy dx dy 37
  have hb0 := below4 w (.cells #[.int .i64 ax, .int .i64 ay] 37) (.cells #[.int .i64 bx, .int .i64 by'] 37) (.cells #[.int .i64 cx, .int .i64 cy] 37) (.cells #[.int .i64 dx, .int .i64 dy] 37)
  generalize sg (sideN ax ay bx by' cx cy) * sg (circN ax ay bx by' cx cy dx dy) = S at *
  generalize farB ax ay = f1 at *
  generalize farB bx by' = f2 at *
  generalize farB cx cy = f3 at *
  generalize farB dx dy = f4 at *
  go_enter Tryz.func41, Tryz.ntmps41
  go_upto_region 1 with fail
  generalize (((w.alloc (.cells #[.int .i64 ax, .int .i64 ay] 37)).alloc (.cells #[.int .i64 bx, .int .i64 by'] 37)).alloc (.cells #[.int .i64 cx, .int .i64 cy] 37)).alloc (.cells #[.int .i64 dx, .int .i64 dy] 37) = W0 at *
  obtain ⟨⟨k0, k1⟩, ⟨k2, k3⟩, ⟨k4, k5⟩, k6, k7⟩ := T0.get4
  go_upto_region 2 with (go_at_call 63; refine (F1 _).mono ?_; rintro e W1 ⟨rfl, hb1⟩)
  have T1 := T0.below hb1
  have B1 := hb0.trans (hb1.mono hb0.size)
  clear T0 hb0 hb1 k0 k1 k2 k3 k4 k5 k6 k7
  obtain ⟨⟨k0, k1⟩, ⟨k2, k3⟩, ⟨k4, k5⟩, k6, k7⟩ := T1.get4
  go_upto_region 3 with (go_at_call 63; refine (F2 _).mono ?_; rintro e W2 ⟨rfl, hb1⟩)
  have T2 := T1.below hb1
  have B2 := B1.trans (hb1.mono B1.size)
  clear T1 B1 hb1 k0 k1 k2 k3 k4 k5 k6 k7
  obtain ⟨⟨k0, k1⟩, ⟨k2, k3⟩, ⟨k4, k5⟩, k6, k7⟩ := T2.get4
  go_upto_region 4 with (go_at_call 63; refine (F3 _).mono ?_; rintro e W3 ⟨rfl, hb1⟩)
  have T3 := T2.below hb1
  have B3 := B2.trans (hb1.mono B2.size)
  clear T2 B2 hb1 k0 k1 k2 k3 k4 k5 k6 k7
  obtain ⟨⟨k0, k1⟩, ⟨k2, k3⟩, ⟨k4, k5⟩, k6, k7⟩ := T3.get4
  go_upto_region 5 with (go_at_call 63; refine (F4 _).mono ?_; rintro e W4 ⟨rfl, hb1⟩)
  have T4 := T3.below hb1
  have B4 := B3.trans (hb1.mono B3.size)
  clear T3 B3 hb1 k0 k1 k2 k3 k4 k5 k6 k7
  obtain ⟨⟨k0, k1⟩, ⟨k2, k3⟩, ⟨k4, k5⟩, k6, k7⟩ := T4.get4
  cases f1 <;> cases f2 <;> cases f3 <;> cases f4
  · go_wp2_with (go_at_call 88; refine (HS rfl rfl rfl rfl _).mono ?_; rintro e W5 ⟨rfl, hb1⟩)
    go_ret2
    exact ⟨rfl, B4.trans (hb1.mono B4.size)⟩
  all_goals
    go_wp2
    go_ret2
    exact ⟨rfl, B4⟩

end Go.Proofs.YtgpapegpdfonpaaGreatDoor
