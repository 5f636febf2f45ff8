/-
  The document's own answer for meshes: Locate where there are no points.
  The statement's part for meshes: towards World.locates.
-/
import Derived.Test.YtgpapegpdfonpaaGreatDoorMeshCD
import Derived.Test.YtgpapegpdfonpaaGreatDoorMeshJ
set_option linter.unusedVariables false
set_option linter.unusedSimpArgs false
namespace Go.Proofs.YtgpapegpdfonpaaGreatDoor
open Go.RowKit
attribute [local go_sem ↓] Go.wp_at_zero Go.wp_at_succ
set_option maxHeartbeats 800000 in
theorem joined_none (a : Option Addr) (cap : Nat) (ta : Option Addr) (tc : Nat) (w : World) :
  Calls Tryz.prog 129 #[.slice a 0 cap, .slice ta 0 tc] w fun e w' => e = .returned (.slice none 0 0) ∧ w' = w := by
 go_enter Tryz.func129, Tryz.ntmps129
 go_wp2_with (go_at_call 92; refine (flat_nil a cap w).mono ?_; rintro e w1 ⟨rfl, rfl⟩)
 go_loopw [5, 7] (fun s5 s7 wr => s5 = .slice none 0 0 ∧ s7 = .int .i64 0 ∧ wr = w1) (fun _ _ _ => 0)
 case atStart => exact ⟨rfl, rfl, rfl⟩
 case round =>
  obtain ⟨rfl, rfl, rfl⟩ := hrel
  go_wp2
  go_ret
  exact ⟨rfl, rfl⟩
set_option maxRecDepth 100000 in
set_option maxHeartbeats 4000000 in
theorem locate_none (a : Option Addr) (cap : Nat) (ta : Option Addr) (tc : Nat) (px py : Int) (w : World) :
  Calls Tryz.prog 103 #[.slice a 0 cap, .slice ta 0 tc, .agg #[.int .i64 px, .int .i64 py]] w fun e w' => e = .returned (.agg #[.int .i64 0, .int .i64 (-1), .int .i64 (-1), .int .i64 (-1)]) ∧ Below w.heap.size w w' := by
 go_enter Tryz.func103, Tryz.ntmps103
 go_upto_region 1 with fail
 have HLW := loc_start w px py
 generalize (w.alloc (.cells #[.int .i64 px, .int .i64 py] 37)).alloc (.cells #[.int .i64 0, .int .i64 0, .int .i64 0, .int .i64 0] 155) = W at *
 have HW : Hid (LocW w W px py) := HLW
 obtain ⟨a0, a1, a2, a3, af⟩ := ans_cells HLW.ans
 have f0 := af 0
 have f1 := af 1
 have f2 := af 2
 have f3 := af 3
 obtain ⟨X, hX, z0, z1, z2, z3, hbX⟩ := ans_put HLW.ans (.int .i64 0) (.int .i64 (-1)) (.int .i64 (-1)) (.int .i64 (-1))
 have HBX : Hid (Below w.heap.size w X) := HLW.bel.trans (hbX w.heap.size (by omega))
 clear af hbX HLW HW
 go_wp2_with fail
 go_loopw [7] (fun s7 wr => s7 = .int .i64 0 ∧ W = wr) (fun _ _ => 0)
 case atStart => exact ⟨rfl, rfl⟩
 case round =>
  obtain ⟨rfl, rfl⟩ := hrel
  go_wp2_with (go_at_call 129; refine (joined_none a cap ta tc _).mono ?_; rintro e w1 ⟨rfl, e1⟩; replace e1 := e1.symm; subst e1)
  go_loopw [9] (fun s9 wr => s9 = .int .i64 0 ∧ W = wr) (fun _ _ => 0)
  case atStart => exact ⟨rfl, rfl⟩
  case round =>
   obtain ⟨rfl, rfl⟩ := hrel
   go_wp2
   go_loopw [12] (fun s12 wr => s12 = .int .i64 0 ∧ W = wr) (fun _ _ => 0)
   case atStart => exact ⟨rfl, rfl⟩
   case round =>
    obtain ⟨rfl, rfl⟩ := hrel
    go_wp2
    refine bodyPost_ret (v := .agg #[.int .i64 0, .int .i64 (-1), .int .i64 (-1), .int .i64 (-1)]) (by simp [results, Tryz.results103, go_sem, z0, z1, z2, z3]) rfl ⟨rfl, HBX.out⟩
end Go.Proofs.YtgpapegpdfonpaaGreatDoor

namespace Go.Proofs.YtgpapegpdfonpaaGreatDoor
open Go.RowKit
attribute [local go_sem ↓] Go.wp_at_zero Go.wp_at_succ
def APost (MAt : MeshPred) (WB N : Nat) (v0 : Value) (w w' : World) (tag : Nat → Nat) (iK iM : Nat) (d : KD) : Prop :=
 ∃ tag' d', Bks w' WB v0 tag' (N + 1) ∧ KM MAt w' tag' iK iM d' ∧ d'.K = d.K ∧ d'.s.ever ≤ d.s.ever + 1 ∧ Agree w tag tag' ∧ Chg (fun k => BkF WB tag k ∨ tag k = iK ∨ tag k = iM) w w'
theorem TriPost.toA {MAt : MeshPred} {WB N : Nat} {v0 : Value} {w w' : World} {tag : Nat → Nat} {iK iM : Nat} {d : KD} (h : TriPost MAt WB N v0 w w' tag iK iM d) : APost MAt WB N v0 w w' tag iK iM d := by
 obtain ⟨tag', d', h1, h2, h3, h4, h5, h6⟩ := h
 exact ⟨tag', d', h1, h2, h3, by rw [h4]; omega, h5, h6⟩
theorem KPost.toA {MAt : MeshPred} {WB N : Nat} {v0 : Value} {w w' : World} {tag : Nat → Nat} {iK iM : Nat} {d : KD} (hB : Bks w WB v0 tag N) (h1 : 4 < iK) (h2 : 4 < iM) (h : KPost MAt w w' tag iK iM d) : APost MAt WB N v0 w w' tag iK iM d := by
 obtain ⟨tag', d', k1, k2, k3, k4, k5, k6⟩ := h
 refine ⟨tag', d', (hB.move (fun k h0 h4 => ⟨k6.far k (hB.tlt k h0) (by omega), k4 k (hB.tlt k h0)⟩) k5 k4).more (by omega), k1, k2, k3, k4, k6.mono fun k _ h => .inr h⟩
theorem eqOf (a b c a' b' c' : Int) (w : World) : (Op.equalIn 9999 52 (.agg #[.int .i64 a, .int .i64 b, .int .i64 c]) (.agg #[.int .i64 a', .int .i64 b', .int .i64 c'])).run Tryz.prog w = .ok (a == a' && b == b' && c == c') w := by
 have u3 := Tryz.underlying3
 have a3 := Tryz.isAgg3
 have z3 := Tryz.sizeOf3
 rw [show (9999 : Nat) = 9998 + 1 from rfl, Op.equalIn]
 simp only [Sem.run_bind, run_underlying Tryz.underlying52, Result.andThen_ok]
 simp only [Std.Legacy.Range.forIn_eq_forIn_range', Std.Legacy.Range.size, Nat.sub_zero, Nat.add_sub_cancel, Nat.div_one, List.range'_succ, List.range'_zero, List.forIn_cons, List.forIn_nil]
 go_simp
 by_cases h1 : a = a' <;> by_cases h2 : b = b' <;> by_cases h3 : c = c' <;> simp [h1, h2, h3]
set_option maxRecDepth 100000 in
theorem eqPlace (a b c d : Int) (w : World) : (Op.equalIn 10000 155 (.agg #[.int .i64 a, .int .i64 b, .int .i64 c, .int .i64 d]) (.agg #[.int .i64 a, .int .i64 b, .int .i64 c, .int .i64 d])).run Tryz.prog w = .ok true w := by
 have heq := eqOf b c d b c d
 have e1 : (b == b && c == c && d == d) = true := by simp
 rw [e1] at heq
 clear e1
 go_simp
theorem run_field_K0 (w : World) (K : Nat) : (Instr.fieldAt 67 (.pointer (some ⟨K, 0, none⟩)) 0).run Tryz.prog w = .ok (.pointer (some ⟨K, 0, none⟩)) w := by go_simp
theorem run_load_mp (w : World) (K : Nat) (v : Value) (h : w.cell? ⟨K, 0, none⟩ = some v) : (Instr.loadAt 63 (.pointer (some ⟨K, 0, none⟩))).run Tryz.prog w = .ok v w := by go_simp
theorem run_alloc_place (w : World) : (Instr.alloc 155 true (.tuple #[])).run Tryz.prog w = .ok (.pointer (some ⟨w.heap.size, 0, none⟩)) (w.alloc (.cells #[.int .i64 0, .int .i64 0, .int .i64 0, .int .i64 0] 155)) := by go_simp
theorem run_store_place (w : World) (X : Nat) (k a b c : Int) {z0 z1 z2 z3 : Value} (h : w.heap[X]? = some (.cells #[z0, z1, z2, z3] 155 (0, 0))) :
  (Instr.storeAt 155 (.pointer (some ⟨X, 0, none⟩)) (.agg #[.int .i64 k, .int .i64 a, .int .i64 b, .int .i64 c])).run Tryz.prog w = .ok () ((((w.setCell ⟨X, 0, none⟩ (.int .i64 k)).setCell ⟨X, 1, none⟩ (.int .i64 a)).setCell ⟨X, 2, none⟩ (.int .i64 b)).setCell ⟨X, 3, none⟩ (.int .i64 c)) := by
 obtain ⟨q0, q1, q2, q3, ff⟩ := ans_cells h
 have f0 := ff 0
 have f1 := ff 1
 have f2 := ff 2
 have f3 := ff 3
 clear ff
 go_simp
theorem gives_assign {P : Program} {o : Oper} {ρ : Operand → Value} {w : World} {R : Value → World → Prop} {x : Operand} {v : Value} (hop : o.op = .assign x) (hx : ρ x = v) (hR : R v w) : Gives P o ρ w R := by
 refine Gives.value v w ?_ hR
 simp only [execOp, hop, hx]
 rfl
theorem gives_extract {P : Program} {o : Oper} {ρ : Operand → Value} {w : World} {R : Value → World → Prop} {x : Operand} {i : Nat} {vs : Array Value} {v : Value} (hop : o.op = .extract x i) (hx : ρ x = .tuple vs) (hv : vs[i]? = some v) (hR : R v w) : Gives P o ρ w R := by
 refine Gives.value v w ?_ hR
 simp only [execOp, hop, hx]
 simp [Instr.extract, hv]
def LocMid (MAt : MeshPred) (W wx : World) (tag : Nat → Nat) (iM mp : Nat) (s : MS) (p : Pt) (X : Nat) (k a b c r : Int) : Prop :=
 LocR s p k a b c r ∧ wx.heap[X]? = some (.cells #[.int .i64 k, .int .i64 a, .int .i64 b, .int .i64 c] 155 (0, 0)) ∧ W.heap.size ≤ X ∧ ∃ tag1, tag1 X = 0 ∧ Agree W tag tag1 ∧ Tagged wx tag1 ∧ MAt wx tag1 iM mp s ∧ Chg (fun k => tag k = iM) W wx
structure LocI (MAt : MeshPred) (W : World) (tag : Nat → Nat) (iM mp K : Nat) (s : MS) (px py : Int) (L : Nat → Bool) (σ : Nat → Value) (w : World) : Prop where
 v0 : L 0 = true → σ 0 = .pointer (some ⟨K, 0, none⟩)
 v1 : L 1 = true → σ 1 = .pointer (some ⟨K, 0, none⟩)
 v2 : L 2 = true → σ 2 = .pointer (some ⟨K, 0, none⟩)
 v3 : L 3 = true → σ 3 = .pointer (some ⟨mp, 0, none⟩)
 v4 : L 4 = true → σ 4 = pv px py
 pre : L 5 = false → Below W.heap.size W w ∧ (L 9 = true → ∃ X, σ 9 = .pointer (some ⟨X, 0, none⟩) ∧ W.heap.size ≤ X ∧ w.heap[X]? = some (.cells #[.int .i64 0, .int .i64 0, .int .i64 0, .int .i64 0] 155 (0, 0)))
 post : L 5 = true → ∃ k a b c r tag1, σ 5 = .tuple #[.agg #[.int .i64 k, .int .i64 a, .int .i64 b, .int .i64 c], .int .i64 r] ∧ LocR s (px, py) k a b c r ∧ Agree W tag tag1 ∧ Tagged w tag1 ∧ MAt w tag1 iM mp s ∧ Chg (fun k => tag k = iM) W w ∧
  (L 6 = true → σ 6 = σ 5) ∧ (L 7 = true → σ 7 = .agg #[.int .i64 k, .int .i64 a, .int .i64 b, .int .i64 c]) ∧ (L 8 = true → σ 8 = .int .i64 r) ∧ (L 11 = true → σ 11 = .int .i64 r) ∧
  (L 9 = true → ∃ X, σ 9 = .pointer (some ⟨X, 0, none⟩) ∧ W.heap.size ≤ X ∧ tag1 X = 0 ∧ (L 10 = false → w.heap[X]? = some (.cells #[.int .i64 0, .int .i64 0, .int .i64 0, .int .i64 0] 155 (0, 0))) ∧ (L 10 = true → w.heap[X]? = some (.cells #[.int .i64 k, .int .i64 a, .int .i64 b, .int .i64 c] 155 (0, 0))))
section
variable {MAt : MeshPred} {W w w' : World} {tag : Nat → Nat} {iM mp K : Nat} {s : MS} {px py : Int} {L : Nat → Bool} {σ : Nat → Value} {v : Value}
theorem LocI.s0 (h : LocI MAt W tag iM mp K s px py L σ w) : LocI MAt W tag iM mp K s px py (fun j => if j = 0 then true else L j) (fun j => if j = 0 then .pointer (some ⟨K, 0, none⟩) else σ j) w := ⟨fun _ => rfl, h.v1, h.v2, h.v3, h.v4, h.pre, h.post⟩
theorem LocI.s1 (h : LocI MAt W tag iM mp K s px py L σ w) : LocI MAt W tag iM mp K s px py (fun j => if j = 1 then true else L j) (fun j => if j = 1 then .pointer (some ⟨K, 0, none⟩) else σ j) w := ⟨h.v0, fun _ => rfl, h.v2, h.v3, h.v4, h.pre, h.post⟩
theorem LocI.s2 (h : LocI MAt W tag iM mp K s px py L σ w) : LocI MAt W tag iM mp K s px py (fun j => if j = 2 then true else L j) (fun j => if j = 2 then .pointer (some ⟨K, 0, none⟩) else σ j) w := ⟨h.v0, h.v1, fun _ => rfl, h.v3, h.v4, h.pre, h.post⟩
theorem LocI.s3 (h : LocI MAt W tag iM mp K s px py L σ w) : LocI MAt W tag iM mp K s px py (fun j => if j = 3 then true else L j) (fun j => if j = 3 then .pointer (some ⟨mp, 0, none⟩) else σ j) w := ⟨h.v0, h.v1, h.v2, fun _ => rfl, h.v4, h.pre, h.post⟩
theorem LocI.s4 (h : LocI MAt W tag iM mp K s px py L σ w) : LocI MAt W tag iM mp K s px py (fun j => if j = 4 then true else L j) (fun j => if j = 4 then pv px py else σ j) w := ⟨h.v0, h.v1, h.v2, h.v3, fun _ => rfl, h.pre, h.post⟩
theorem LocI.s5 (h : LocI MAt W tag iM mp K s px py L σ w) (htg : ∀ k, W.heap.size ≤ k → tag k = 0) (hi : iM ≠ 0) (hu : L 5 = false) (h6 : L 6 = false) (h7 : L 7 = false) (h8 : L 8 = false) (h10 : L 10 = false) (h11 : L 11 = false) {k a b c r : Int} (hloc : LocR s (px, py) k a b c r) (hp : MPost MAt w w' tag iM mp s (.slice none 0 0)) :
  LocI MAt W tag iM mp K s px py (fun j => if j = 5 then true else L j) (fun j => if j = 5 then .tuple #[.agg #[.int .i64 k, .int .i64 a, .int .i64 b, .int .i64 c], .int .i64 r] else σ j) w' := by
 obtain ⟨hb, hx⟩ := h.pre hu
 obtain ⟨tag1, hag, hlt, hM, hch, _⟩ := hp
 refine ⟨h.v0, h.v1, h.v2, h.v3, h.v4, (fun e => by cases e), fun _ => ⟨k, a, b, c, r, tag1, rfl, hloc, fun j hj => hag j (Nat.lt_of_lt_of_le hj hb.size), hlt, hM, Chg.trans (Chg.of_below hb) hch fun _ _ h => h, fun e => ?_, fun e => ?_, fun e => ?_, fun e => ?_, fun e => ?_⟩⟩
 ·have e : L 6 = true := e; rw [h6] at e; cases e
 ·have e : L 7 = true := e; rw [h7] at e; cases e
 ·have e : L 8 = true := e; rw [h8] at e; cases e
 ·have e : L 11 = true := e; rw [h11] at e; cases e
 ·obtain ⟨X, e1, e2, e3⟩ := hx e
  have hXl := lt_some e3
  refine ⟨X, e1, e2, by rw [hag X hXl]; exact htg X e2, fun _ => by rw [hch.far X hXl (by rw [htg X e2]; exact fun e => hi e.symm)]; exact e3, fun e => ?_⟩
  have e : L 10 = true := e; rw [h10] at e; cases e
theorem LocI.s6 (h : LocI MAt W tag iM mp K s px py L σ w) (h5 : L 5 = true) : LocI MAt W tag iM mp K s px py (fun j => if j = 6 then true else L j) (fun j => if j = 6 then σ 5 else σ j) w := by
 obtain ⟨k, a, b, c, r, tag1, q1, q2, q3, q4, q5, q6, q7, q8, q9, q10, q11⟩ := h.post h5
 exact ⟨h.v0, h.v1, h.v2, h.v3, h.v4, h.pre, fun _ => ⟨k, a, b, c, r, tag1, q1, q2, q3, q4, q5, q6, fun _ => rfl, q8, q9, q10, q11⟩⟩
theorem LocI.s7 (h : LocI MAt W tag iM mp K s px py L σ w) (h5 : L 5 = true) : ∃ k a b c r, σ 5 = .tuple #[.agg #[.int .i64 k, .int .i64 a, .int .i64 b, .int .i64 c], .int .i64 r] ∧ LocI MAt W tag iM mp K s px py (fun j => if j = 7 then true else L j) (fun j => if j = 7 then .agg #[.int .i64 k, .int .i64 a, .int .i64 b, .int .i64 c] else σ j) w := by
 obtain ⟨k, a, b, c, r, tag1, q1, q2, q3, q4, q5, q6, q7, q8, q9, q10, q11⟩ := h.post h5
 exact ⟨k, a, b, c, r, q1, ⟨h.v0, h.v1, h.v2, h.v3, h.v4, h.pre, fun _ => ⟨k, a, b, c, r, tag1, q1, q2, q3, q4, q5, q6, q7, fun _ => rfl, q9, q10, q11⟩⟩⟩
theorem LocI.s8 (h : LocI MAt W tag iM mp K s px py L σ w) (h5 : L 5 = true) : ∃ k a b c r, σ 5 = .tuple #[.agg #[.int .i64 k, .int .i64 a, .int .i64 b, .int .i64 c], .int .i64 r] ∧ LocI MAt W tag iM mp K s px py (fun j => if j = 8 then true else L j) (fun j => if j = 8 then .int .i64 r else σ j) w := by
 obtain ⟨k, a, b, c, r, tag1, q1, q2, q3, q4, q5, q6, q7, q8, q9, q10, q11⟩ := h.post h5
 exact ⟨k, a, b, c, r, q1, ⟨h.v0, h.v1, h.v2, h.v3, h.v4, h.pre, fun _ => ⟨k, a, b, c, r, tag1, q1, q2, q3, q4, q5, q6, q7, q8, fun _ => rfl, q10, q11⟩⟩⟩
theorem LocI.s11 (h : LocI MAt W tag iM mp K s px py L σ w) (h5 : L 5 = true) (h8 : L 8 = true) : ∃ r, σ 8 = .int .i64 r ∧ LocI MAt W tag iM mp K s px py (fun j => if j = 11 then true else L j) (fun j => if j = 11 then .int .i64 r else σ j) w := by
 obtain ⟨k, a, b, c, r, tag1, q1, q2, q3, q4, q5, q6, q7, q8, q9, q10, q11⟩ := h.post h5
 exact ⟨r, q9 h8, ⟨h.v0, h.v1, h.v2, h.v3, h.v4, h.pre, fun _ => ⟨k, a, b, c, r, tag1, q1, q2, q3, q4, q5, q6, q7, q8, q9, fun _ => rfl, q11⟩⟩⟩
theorem LocI.s9 (Lw : MeshLaw MAt) (h : LocI MAt W tag iM mp K s px py L σ w) (h10 : L 10 = false) :
  LocI MAt W tag iM mp K s px py (fun j => if j = 9 then true else L j) (fun j => if j = 9 then .pointer (some ⟨w.heap.size, 0, none⟩) else σ j) (w.alloc (.cells #[.int .i64 0, .int .i64 0, .int .i64 0, .int .i64 0] 155)) := by
 refine ⟨h.v0, h.v1, h.v2, h.v3, h.v4, fun e => ?_, fun e => ?_⟩
 ·obtain ⟨hb, _⟩ := h.pre e
  exact ⟨hb.alloc hb.size _, fun _ => ⟨w.heap.size, rfl, hb.size, heap_alloc_new _ _⟩⟩
 ·obtain ⟨k, a, b, c, r, tag1, q1, q2, q3, q4, q5, q6, q7, q8, q9, q10, q11⟩ := h.post e
  have hz : tag1 w.heap.size = 0 := by
   by_cases e : tag1 w.heap.size = 0
   ·exact e
   ·have := q4 _ e; omega
  refine ⟨k, a, b, c, r, tag1, q1, q2, q3, fun j hj => Nat.lt_of_lt_of_le (q4 j hj) (by simp), Lw.frame _ _ _ _ _ _ _ q5 (by simp) fun j hj ht => ⟨Below.heap_alloc _ _ _ hj, ht⟩, Chg.trans q6 (Chg.of_below (F := fun _ => False) (below1 w _)) fun _ _ h => h.elim, q7, q8, q9, q10, fun _ => ⟨w.heap.size, rfl, q6.size, hz, fun _ => heap_alloc_new _ _, fun e => ?_⟩⟩
  have e : L 10 = true := e; rw [h10] at e; cases e
theorem LocI.s10 (Lw : MeshLaw MAt) (h : LocI MAt W tag iM mp K s px py L σ w) (htg : ∀ k, W.heap.size ≤ k → tag k = 0) (hi : iM ≠ 0) (h5 : L 5 = true) (h7 : L 7 = true) (h9 : L 9 = true) (hu : L 10 = false) :
  ∃ X k a b c, σ 9 = .pointer (some ⟨X, 0, none⟩) ∧ σ 7 = .agg #[.int .i64 k, .int .i64 a, .int .i64 b, .int .i64 c] ∧ w.heap[X]? = some (.cells #[.int .i64 0, .int .i64 0, .int .i64 0, .int .i64 0] 155 (0, 0)) ∧
   LocI MAt W tag iM mp K s px py (fun j => if j = 10 then true else L j) (fun j => if j = 10 then undef else σ j) ((((w.setCell ⟨X, 0, none⟩ (.int .i64 k)).setCell ⟨X, 1, none⟩ (.int .i64 a)).setCell ⟨X, 2, none⟩ (.int .i64 b)).setCell ⟨X, 3, none⟩ (.int .i64 c)) := by
 obtain ⟨k, a, b, c, r, tag1, q1, q2, q3, q4, q5, q6, q7, q8, q9, q10, q11⟩ := h.post h5
 obtain ⟨X, e1, e2, e3, e4, _⟩ := q11 h9
 have hX := e4 hu
 have k0 := heap_setCell_same w X 0 _ _ (.int .i64 k) hX
 have k1 := heap_setCell_same _ X 1 _ _ (.int .i64 a) k0
 have k2 := heap_setCell_same _ X 2 _ _ (.int .i64 b) k1
 have k3 := heap_setCell_same _ X 3 _ _ (.int .i64 c) k2
 have far : ∀ j, j ≠ X → ((((w.setCell ⟨X, 0, none⟩ (.int .i64 k)).setCell ⟨X, 1, none⟩ (.int .i64 a)).setCell ⟨X, 2, none⟩ (.int .i64 b)).setCell ⟨X, 3, none⟩ (.int .i64 c)).heap[j]? = w.heap[j]? := fun j hj => by
  rw [Below.heap_setCell _ _ _ _ hj, Below.heap_setCell _ _ _ _ hj, Below.heap_setCell _ _ _ _ hj, Below.heap_setCell _ _ _ _ hj]
 refine ⟨X, k, a, b, c, e1, q8 h7, hX, ⟨h.v0, h.v1, h.v2, h.v3, h.v4, fun e => ?_, fun _ => ⟨k, a, b, c, r, tag1, q1, q2, q3, fun j hj => by simpa using q4 j hj, Lw.frame _ _ _ _ _ _ _ q5 (by simp) fun j hj ht => ⟨far j fun e => ?_, ht⟩, ?_, q7, q8, q9, q10, fun _ => ⟨X, e1, e2, e3, (fun e => by cases e), fun _ => ?_⟩⟩⟩⟩
 ·have e : L 5 = false := e; rw [h5] at e; cases e
 ·rw [e, e3] at ht; exact hi ht.symm
 ·exact ⟨q6.os, q6.tape, q6.output, by simpa using q6.size, fun j hj hF => by rw [far j (by omega)]; exact q6.far j hj hF⟩
 ·rw [k3]; rfl
theorem LocI.start (W : World) : LocI MAt W tag iM mp K s px py (fun _ => false) σ W.drew := ⟨(fun h => by cases h), (fun h => by cases h), (fun h => by cases h), (fun h => by cases h), (fun h => by cases h), fun _ => ⟨(Below.refl _ _).drew, (fun h => by cases h)⟩, (fun h => by cases h)⟩
end
theorem locg_any (pa : Option Addr) (pc : Nat) (ta : Option Addr) (tc : Nat) (l : List Pt) (ts : List T3) (px py : Int) (w : World) (hr : RawAt w pa l) (hl : l.length ≤ 60) (hn : AllNear l) (hG : GoodT l ts) (ht : TriAt w ta ts) (hpn : Near px py) :
  Calls Tryz.prog 103 #[.slice pa l.length pc, .slice ta ts.length tc, pv px py] w fun e w' => ∃ k a b c, e = .returned (.agg #[.int .i64 k, .int .i64 a, .int .i64 b, .int .i64 c]) ∧ LocP l ts (allJ l ts (flB l) l.length) (px, py) k a b c ∧ Below w.heap.size w w' := by
 by_cases h0 : l = []
 ·subst h0
  have hts : ts = [] := by
   cases ts with
   | nil => rfl
   | cons t ts =>
    have := hG.nums t (List.mem_cons_self ..)
    simp only [List.length_nil] at this
    omega
  subst hts
  refine (locate_none pa pc ta tc px py w).mono ?_
  rintro e w' ⟨rfl, hb⟩
  exact ⟨0, -1, -1, -1, rfl, .inr (.inr (.inr ⟨(fun i hi => by simp at hi), (fun q hq => by simp [allJ] at hq), (fun t ht => by cases ht), rfl, rfl, rfl, rfl⟩)), hb⟩
 ·rcases hr with h | ⟨b, off, rfl, hb, hp⟩
  ·exact absurd h h0
  ·exact locate_any b off pc ta tc l ts (flB l) px py w hl hG.1 hn hpn hb hp ht (flB_iff l) hG.nums
structure LocJ (W : World) (K : Nat) (pa : Option Addr) (pc : Nat) (ta : Option Addr) (tc : Nat) (l : List Pt) (ts : List T3) (px py : Int) (L : Nat → Bool) (σ : Nat → Value) (w : World) : Prop where
 v0 : L 0 = true → σ 0 = .pointer (some ⟨K, 0, none⟩)
 v1 : L 1 = true → σ 1 = .pointer (some ⟨K, 0, none⟩)
 v2 : L 2 = true → σ 2 = .pointer (some ⟨K, 1, none⟩)
 v3 : L 3 = true → σ 3 = .slice pa l.length pc
 v4 : L 4 = true → σ 4 = .slice ta ts.length tc
 v5 : L 5 = true → σ 5 = pv px py
 bel : Below W.heap.size W w
 v6 : L 6 = true → ∃ k a b c, σ 6 = .agg #[.int .i64 k, .int .i64 a, .int .i64 b, .int .i64 c] ∧ LocP l ts (allJ l ts (flB l) l.length) (px, py) k a b c
 v7 : L 7 = true → ∃ Y, σ 7 = .pointer (some ⟨Y, 0, none⟩) ∧ W.heap.size ≤ Y ∧ (L 8 = false → w.heap[Y]? = some (.cells #[.int .i64 0, .int .i64 0, .int .i64 0, .int .i64 0] 155 (0, 0))) ∧
  (L 8 = true → ∃ k a b c, LocP l ts (allJ l ts (flB l) l.length) (px, py) k a b c ∧ w.heap[Y]? = some (.cells #[.int .i64 k, .int .i64 a, .int .i64 b, .int .i64 c] 155 (0, 0)))
section
variable {W w w' : World} {K : Nat} {pa ta : Option Addr} {pc tc : Nat} {l : List Pt} {ts : List T3} {px py : Int} {L : Nat → Bool} {σ : Nat → Value}
theorem LocJ.s0 (h : LocJ W K pa pc ta tc l ts px py L σ w) : LocJ W K pa pc ta tc l ts px py (fun j => if j = 0 then true else L j) (fun j => if j = 0 then .pointer (some ⟨K, 0, none⟩) else σ j) w := ⟨fun _ => rfl, h.v1, h.v2, h.v3, h.v4, h.v5, h.bel, h.v6, h.v7⟩
theorem LocJ.s1 (h : LocJ W K pa pc ta tc l ts px py L σ w) : LocJ W K pa pc ta tc l ts px py (fun j => if j = 1 then true else L j) (fun j => if j = 1 then .pointer (some ⟨K, 0, none⟩) else σ j) w := ⟨h.v0, fun _ => rfl, h.v2, h.v3, h.v4, h.v5, h.bel, h.v6, h.v7⟩
theorem LocJ.s2 (h : LocJ W K pa pc ta tc l ts px py L σ w) : LocJ W K pa pc ta tc l ts px py (fun j => if j = 2 then true else L j) (fun j => if j = 2 then .pointer (some ⟨K, 1, none⟩) else σ j) w := ⟨h.v0, h.v1, fun _ => rfl, h.v3, h.v4, h.v5, h.bel, h.v6, h.v7⟩
theorem LocJ.s3 (h : LocJ W K pa pc ta tc l ts px py L σ w) : LocJ W K pa pc ta tc l ts px py (fun j => if j = 3 then true else L j) (fun j => if j = 3 then .slice pa l.length pc else σ j) w := ⟨h.v0, h.v1, h.v2, fun _ => rfl, h.v4, h.v5, h.bel, h.v6, h.v7⟩
theorem LocJ.s4 (h : LocJ W K pa pc ta tc l ts px py L σ w) : LocJ W K pa pc ta tc l ts px py (fun j => if j = 4 then true else L j) (fun j => if j = 4 then .slice ta ts.length tc else σ j) w := ⟨h.v0, h.v1, h.v2, h.v3, fun _ => rfl, h.v5, h.bel, h.v6, h.v7⟩
theorem LocJ.s5 (h : LocJ W K pa pc ta tc l ts px py L σ w) : LocJ W K pa pc ta tc l ts px py (fun j => if j = 5 then true else L j) (fun j => if j = 5 then pv px py else σ j) w := ⟨h.v0, h.v1, h.v2, h.v3, h.v4, fun _ => rfl, h.bel, h.v6, h.v7⟩
theorem LocJ.s6 (h : LocJ W K pa pc ta tc l ts px py L σ w) {k a b c : Int} (hP : LocP l ts (allJ l ts (flB l) l.length) (px, py) k a b c) (hb : Below w.heap.size w w') :
  LocJ W K pa pc ta tc l ts px py (fun j => if j = 6 then true else L j) (fun j => if j = 6 then .agg #[.int .i64 k, .int .i64 a, .int .i64 b, .int .i64 c] else σ j) w' := by
 refine ⟨h.v0, h.v1, h.v2, h.v3, h.v4, h.v5, h.bel.trans (hb.mono h.bel.size), fun _ => ⟨k, a, b, c, rfl, hP⟩, fun e => ?_⟩
 obtain ⟨Y, e1, e2, e3, e4⟩ := h.v7 e
 refine ⟨Y, e1, e2, fun e => ?_, fun e => ?_⟩
 ·have := e3 e
  rw [hb.block Y (lt_some this)]; exact this
 ·obtain ⟨k, a, b, c, q1, q2⟩ := e4 e
  exact ⟨k, a, b, c, q1, by rw [hb.block Y (lt_some q2)]; exact q2⟩
theorem LocJ.s7 (h : LocJ W K pa pc ta tc l ts px py L σ w) (h8 : L 8 = false) :
  LocJ W K pa pc ta tc l ts px py (fun j => if j = 7 then true else L j) (fun j => if j = 7 then .pointer (some ⟨w.heap.size, 0, none⟩) else σ j) (w.alloc (.cells #[.int .i64 0, .int .i64 0, .int .i64 0, .int .i64 0] 155)) := by
 refine ⟨h.v0, h.v1, h.v2, h.v3, h.v4, h.v5, h.bel.alloc h.bel.size _, h.v6, fun _ => ⟨w.heap.size, rfl, h.bel.size, fun _ => heap_alloc_new _ _, fun e => ?_⟩⟩
 have e : L 8 = true := e; rw [h8] at e; cases e
theorem LocJ.s8 (h : LocJ W K pa pc ta tc l ts px py L σ w) (h6 : L 6 = true) (h7 : L 7 = true) (hu : L 8 = false) :
  ∃ Y k a b c, σ 7 = .pointer (some ⟨Y, 0, none⟩) ∧ σ 6 = .agg #[.int .i64 k, .int .i64 a, .int .i64 b, .int .i64 c] ∧ w.heap[Y]? = some (.cells #[.int .i64 0, .int .i64 0, .int .i64 0, .int .i64 0] 155 (0, 0)) ∧
   LocJ W K pa pc ta tc l ts px py (fun j => if j = 8 then true else L j) (fun j => if j = 8 then undef else σ j) ((((w.setCell ⟨Y, 0, none⟩ (.int .i64 k)).setCell ⟨Y, 1, none⟩ (.int .i64 a)).setCell ⟨Y, 2, none⟩ (.int .i64 b)).setCell ⟨Y, 3, none⟩ (.int .i64 c)) := by
 obtain ⟨Y, e1, e2, e3, _⟩ := h.v7 h7
 obtain ⟨k, a, b, c, q1, q2⟩ := h.v6 h6
 have hX := e3 hu
 have k0 := heap_setCell_same w Y 0 _ _ (.int .i64 k) hX
 have k1 := heap_setCell_same _ Y 1 _ _ (.int .i64 a) k0
 have k2 := heap_setCell_same _ Y 2 _ _ (.int .i64 b) k1
 have k3 := heap_setCell_same _ Y 3 _ _ (.int .i64 c) k2
 refine ⟨Y, k, a, b, c, e1, q1, hX, ⟨h.v0, h.v1, h.v2, h.v3, h.v4, h.v5, (((h.bel.setCell e2 _).setCell e2 _).setCell e2 _).setCell e2 _, h.v6, fun _ => ⟨Y, e1, e2, (fun e => by cases e), fun _ => ⟨k, a, b, c, q2, ?_⟩⟩⟩⟩
 rw [k3]; rfl
theorem LocJ.start (W : World) : LocJ W K pa pc ta tc l ts px py (fun _ => false) σ W.drew := ⟨(fun h => by cases h), (fun h => by cases h), (fun h => by cases h), (fun h => by cases h), (fun h => by cases h), (fun h => by cases h), (Below.refl _ _).drew, (fun h => by cases h), (fun h => by cases h)⟩
end
end Go.Proofs.YtgpapegpdfonpaaGreatDoor
