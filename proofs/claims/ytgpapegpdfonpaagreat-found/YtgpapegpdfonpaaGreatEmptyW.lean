/-
  Within the circle.
-/
import Derived.Test.YtgpapegpdfonpaaGreatMathJ
import Derived.Test.YtgpapegpdfonpaaGreatWalksD
import Derived.BigQuiet
import Derived.BigRegion
namespace Go.Proofs.YtgpapegpdfonpaaGreat
set_option linter.unusedVariables false
set_option linter.unusedSimpArgs false
open Go.RowKit

theorem circ_terms {s1 s2 t1 t2 u1 u2 : Int} (a1 : -16000 ≤ s1) (a2 : s1 ≤ 16000) (a3 : -16000 ≤ s2) (a4 : s2 ≤ 16000) (b1 : -16000 ≤ t1) (b2 : t1 ≤ 16000) (b3 : -16000 ≤ t2) (b4 : t2 ≤ 16000) (c1 : -16000 ≤ u1) (c2 : u1 ≤ 16000) (c3 : -16000 ≤ u2) (c4 : u2 ≤ 16000) :
    -512000000 ≤ s1 * s1 + s2 * s2 ∧ s1 * s1 + s2 * s2 ≤ 512000000 ∧ -512000000 ≤ t1 * u2 - t2 * u1 ∧ t1 * u2 - t2 * u1 ≤ 512000000 ∧ -262144000000000000 ≤ (s1 * s1 + s2 * s2) * (t1 * u2 - t2 * u1) ∧ (s1 * s1 + s2 * s2) * (t1 * u2 - t2 * u1) ≤ 262144000000000000 ∧
    -256000000 ≤ s1 * s1 ∧ s1 * s1 ≤ 256000000 ∧ -256000000 ≤ s2 * s2 ∧ s2 * s2 ≤ 256000000 ∧ -256000000 ≤ t1 * u2 ∧ t1 * u2 ≤ 256000000 ∧ -256000000 ≤ t2 * u1 ∧ t2 * u1 ≤ 256000000 := by
  have m1 := @mul_bd s1 s1 16000 16000 a1 a2 a1 a2
  have m2 := @mul_bd s2 s2 16000 16000 a3 a4 a3 a4
  have m3 := @mul_bd t1 u2 16000 16000 b1 b2 c3 c4
  have m4 := @mul_bd t2 u1 16000 16000 b3 b4 c1 c2
  have m5 := @mul_bd (s1 * s1 + s2 * s2) (t1 * u2 - t2 * u1) 512000000 512000000 (by omega) (by omega) (by omega) (by omega)
  refine ⟨?_, ?_, ?_, ?_, ?_, ?_, ?_, ?_, ?_, ?_, ?_, ?_, ?_, ?_⟩ <;> omega

set_option maxRecDepth 100000 in
set_option maxHeartbeats 4000000 in
theorem within_no (ax ay bx by' cx cy dx dy : Int) (w : World) (a : Near ax ay) (b : Near bx by') (c : Near cx cy) (d : Near dx dy) (h : cc (ax, ay) (bx, by') (cx, cy) (dx, dy) ≤ 0) :
    Calls Tryz.prog 31 #[.agg #[iv ax, iv ay], .agg #[iv bx, iv by'], .agg #[iv cx, iv cy], .agg #[iv dx, iv dy]] w fun e w' => e = .returned (.bool false) ∧ Below w.heap.size w w' := by
  obtain ⟨a1, a2, a3, a4⟩ := a; obtain ⟨b1, b2, b3, b4⟩ := b; obtain ⟨c1, c2, c3, c4⟩ := c; obtain ⟨d1, d2, d3, d4⟩ := d
  unfold cc at h
  dsimp only at h
  have e1 := wrap_id (n := ax - dx) (by omega) (by omega)
  have e2 := wrap_id (n := ay - dy) (by omega) (by omega)
  have e3 := wrap_id (n := bx - dx) (by omega) (by omega)
  have e4 := wrap_id (n := by' - dy) (by omega) (by omega)
  have e5 := wrap_id (n := cx - dx) (by omega) (by omega)
  have e6 := wrap_id (n := cy - dy) (by omega) (by omega)
  have s1 : -16000 ≤ ax - dx ∧ ax - dx ≤ 16000 := by omega
  have s2 : -16000 ≤ ay - dy ∧ ay - dy ≤ 16000 := by omega
  have t1 : -16000 ≤ bx - dx ∧ bx - dx ≤ 16000 := by omega
  have t2 : -16000 ≤ by' - dy ∧ by' - dy ≤ 16000 := by omega
  have u1 : -16000 ≤ cx - dx ∧ cx - dx ≤ 16000 := by omega
  have u2 : -16000 ≤ cy - dy ∧ cy - dy ≤ 16000 := by omega
  clear a1 a2 a3 a4 b1 b2 b3 b4 c1 c2 c3 c4 d1 d2 d3 d4
  go_enter Tryz.func31, Tryz.ntmps31
  go_wp2_with fail
  generalize hW : ((((w.alloc (.cells #[.int .i64 ax, .int .i64 ay] 32)).alloc (.cells #[.int .i64 bx, .int .i64 by'] 32)).alloc (.cells #[.int .i64 cx, .int .i64 cy] 32)).alloc (.cells #[.int .i64 dx, .int .i64 dy] 32)) = W
  have hb0 : Below w.heap.size w W := by rw [← hW]; exact below4 _ _ _ _ _
  have hsz : W.heap.size = w.heap.size + 1 + 1 + 1 + 1 := by rw [← hW]; simp
  have k0 : W.cell? ⟨w.heap.size, 0, none⟩ = some (.int .i64 ax) := by rw [← hW]; simp [go_sem]
  have k1 : W.cell? ⟨w.heap.size, 1, none⟩ = some (.int .i64 ay) := by rw [← hW]; simp [go_sem]
  have k2 : W.cell? ⟨w.heap.size + 1, 0, none⟩ = some (.int .i64 bx) := by rw [← hW]; simp [go_sem]
  have k3 : W.cell? ⟨w.heap.size + 1, 1, none⟩ = some (.int .i64 by') := by rw [← hW]; simp [go_sem]
  have k4 : W.cell? ⟨w.heap.size + 1 + 1, 0, none⟩ = some (.int .i64 cx) := by rw [← hW, World.cell?_alloc_past _ _ _ (by simp), World.cell?_alloc_at _ _ _ _ (by simp)]; rfl
  have k5 : W.cell? ⟨w.heap.size + 1 + 1, 1, none⟩ = some (.int .i64 cy) := by rw [← hW, World.cell?_alloc_past _ _ _ (by simp), World.cell?_alloc_at _ _ _ _ (by simp)]; rfl
  have k6 : W.cell? ⟨w.heap.size + 1 + 1 + 1, 0, none⟩ = some (.int .i64 dx) := by rw [← hW, World.cell?_alloc_at _ _ _ _ (by simp)]; rfl
  have k7 : W.cell? ⟨w.heap.size + 1 + 1 + 1, 1, none⟩ = some (.int .i64 dy) := by rw [← hW, World.cell?_alloc_at _ _ _ _ (by simp)]; rfl
  clear hW hsz
  go_quiet (fail)
  clear k0 k1 k2 k3 k4 k5 k6 k7 e1 e2 e3 e4 e5 e6
  generalize ax - dx = p1 at *
  generalize ay - dy = p2 at *
  generalize bx - dx = q1 at *
  generalize by' - dy = q2 at *
  generalize cx - dx = r1 at *
  generalize cy - dy = r2 at *
  have f1 := circ_terms s1.1 s1.2 s2.1 s2.2 t1.1 t1.2 t2.1 t2.2 u1.1 u1.2 u2.1 u2.2
  have f2 := circ_terms t1.1 t1.2 t2.1 t2.2 u1.1 u1.2 u2.1 u2.2 s1.1 s1.2 s2.1 s2.2
  have f3 := circ_terms u1.1 u1.2 u2.1 u2.2 s1.1 s1.2 s2.1 s2.2 t1.1 t1.2 t2.1 t2.2
  have w1 := wrap_id (n := p1 * p1) (by omega) (by omega)
  have w2 := wrap_id (n := p2 * p2) (by omega) (by omega)
  have w3 := wrap_id (n := q1 * q1) (by omega) (by omega)
  have w4 := wrap_id (n := q2 * q2) (by omega) (by omega)
  have w5 := wrap_id (n := r1 * r1) (by omega) (by omega)
  have w6 := wrap_id (n := r2 * r2) (by omega) (by omega)
  have w7 := wrap_id (n := q1 * r2) (by omega) (by omega)
  have w8 := wrap_id (n := q2 * r1) (by omega) (by omega)
  have w9 := wrap_id (n := r1 * p2) (by omega) (by omega)
  have w10 := wrap_id (n := r2 * p1) (by omega) (by omega)
  have w11 := wrap_id (n := p1 * q2) (by omega) (by omega)
  have w12 := wrap_id (n := p2 * q1) (by omega) (by omega)
  have v1 := wrap_id (n := p1 * p1 + p2 * p2) (by omega) (by omega)
  have v2 := wrap_id (n := q1 * q1 + q2 * q2) (by omega) (by omega)
  have v3 := wrap_id (n := r1 * r1 + r2 * r2) (by omega) (by omega)
  have v4 := wrap_id (n := q1 * r2 - q2 * r1) (by omega) (by omega)
  have v5 := wrap_id (n := r1 * p2 - r2 * p1) (by omega) (by omega)
  have v6 := wrap_id (n := p1 * q2 - p2 * q1) (by omega) (by omega)
  have x1 := wrap_id (n := (p1 * p1 + p2 * p2) * (q1 * r2 - q2 * r1)) (by omega) (by omega)
  have x2 := wrap_id (n := (q1 * q1 + q2 * q2) * (r1 * p2 - r2 * p1)) (by omega) (by omega)
  have x3 := wrap_id (n := (r1 * r1 + r2 * r2) * (p1 * q2 - p2 * q1)) (by omega) (by omega)
  have x4 := wrap_id (n := (p1 * p1 + p2 * p2) * (q1 * r2 - q2 * r1) + (q1 * q1 + q2 * q2) * (r1 * p2 - r2 * p1)) (by omega) (by omega)
  have x5 := wrap_id (n := (p1 * p1 + p2 * p2) * (q1 * r2 - q2 * r1) + (q1 * q1 + q2 * q2) * (r1 * p2 - r2 * p1) + (r1 * r1 + r2 * r2) * (p1 * q2 - p2 * q1)) (by omega) (by omega)
  clear f1 f2 f3 s1 s2 t1 t2 u1 u2
  have hd : decide (0 < (p1 * p1 + p2 * p2) * (q1 * r2 - q2 * r1) + (q1 * q1 + q2 * q2) * (r1 * p2 - r2 * p1) + (r1 * r1 + r2 * r2) * (p1 * q2 - p2 * q1)) = false := decide_eq_false (by omega)
  clear h
  go_wp2
  go_ret
  exact ⟨rfl, below_drewN hb0⟩
end Go.Proofs.YtgpapegpdfonpaaGreat
