/-
  slices.Delete of one element: of points, of numbers.
-/
import Derived.Test.YtgpapegpdfonpaaGreatPtsA
import Derived.Deep.LoopGhost
import Derived.Deep.Draws
import Derived.Deep.RegionLaw
import Derived.Shelf.RegionOpenPlain
namespace Go.Proofs.YtgpapegpdfonpaaGreat
set_option linter.unusedVariables false
set_option linter.unusedSimpArgs false
open Go.RowKit
attribute [local go_sem ↓] Go.wp_at_zero Go.wp_at_succ

theorem run_clear_pt (w : World) (b o c : Nat) (ty : TypeId) (h0 : (w.cell? ⟨b, o, none⟩).isSome = true) (h1 : (w.cell? ⟨b, o + 1, none⟩).isSome = true) (f0 : w.frozen? ⟨b, o, none⟩ = false) (f1 : w.frozen? ⟨b, o + 1, none⟩ = false) :
    (Builtin.clear_ #[22] ty #[.slice (some ⟨b, o, none⟩) 1 c]).run Tryz.prog w = .ok (.tuple #[]) (w.setCells b o [.int .i64 0, .int .i64 0]) := by
  obtain ⟨iP, hiP, hzP, hsP, hbP⟩ := info_parts infoPt
  have hv : ∀ w, (zeroValue 32).run Tryz.prog w = .ok (.agg #[.int .i64 0, .int .i64 0]) w := fun w => by go_simp
  have hz : (Builtin.zeroCells (Value.agg #[.int .i64 0, .int .i64 0]).cells 1).toList = [.int .i64 0, .int .i64 0] := by kernel_rfl
  have hst := run_storeCells_cells (P := Tryz.prog) b o [.int .i64 0, .int .i64 0] 0 w (fun j hj => by
    have : j = 0 ∨ j = 1 := by simp at hj; omega
    rcases this with rfl | rfl
    · exact h0
    · exact h1) (fun j hj => by
    have : j = 0 ∨ j = 1 := by simp at hj; omega
    rcases this with rfl | rfl
    · exact f0
    · exact f1) (by intro v hv'; simp at hv'; rw [hv']; rfl)
  simp only [Nat.add_zero] at hst
  simp [Builtin.clear_, run_underlying Tryz.underlying22, hv, hz, hst]
theorem run_clear_int (w : World) (b o c : Nat) (ty : TypeId) (h0 : (w.cell? ⟨b, o, none⟩).isSome = true) (f0 : w.frozen? ⟨b, o, none⟩ = false) :
    (Builtin.clear_ #[26] ty #[.slice (some ⟨b, o, none⟩) 1 c]).run Tryz.prog w = .ok (.tuple #[]) (w.setCells b o [.int .i64 0]) := by
  obtain ⟨i0, hi0, hz0, hs0, hb0⟩ := info_parts info3
  have hv : ∀ w, (zeroValue 3).run Tryz.prog w = .ok (.int .i64 0) w := fun w => by go_simp
  have hz : (Builtin.zeroCells (Value.int .i64 0).cells 1).toList = [.int .i64 0] := by kernel_rfl
  have hst := run_storeCells_cells (P := Tryz.prog) b o [.int .i64 0] 0 w (fun j hj => by
    have : j = 0 := by simp at hj; omega
    subst this; exact h0) (fun j hj => by
    have : j = 0 := by simp at hj; omega
    subst this; exact f0) (by intro v hv'; simp at hv'; rw [hv']; rfl)
  simp only [Nat.add_zero] at hst
  simp [Builtin.clear_, run_underlying Tryz.underlying26, hv, hz, hst]

/-- a row less one, in its block -/
theorem row_less {w : World} {g cap n s i : Nat} {e : TypeId} {cur : Array Value} {xs : List Value} {z : Value} (hg : w.heap[g]? = some (.cells cur e (0, 0))) (hcs : cur.size = cap * s) (hnc : n ≤ cap) (htk : cur.toList.take (n * s) = xs) (hi : i < n) (hcm : cap ≤ maxLen) (m : Nat) :
    (((w.drewN m).setCells g (i * s) (xs.drop ((i + 1) * s))).setCells g ((n - 1) * s) (List.replicate s z)).ownsRow 0 e s (.slice (some ⟨g, 0, none⟩) (n - 1) cap) (n - 1) (xs.take (i * s) ++ xs.drop ((i + 1) * s)) ∧
    Chg (fun k => k = g) w (((w.drewN m).setCells g (i * s) (xs.drop ((i + 1) * s))).setCells g ((n - 1) * s) (List.replicate s z)) := by
  have m1 : i * s ≤ n * s := Nat.mul_le_mul_right _ (by omega)
  have m2 : (i + 1) * s ≤ n * s := Nat.mul_le_mul_right _ (by omega)
  have m3 : n * s ≤ cap * s := Nat.mul_le_mul_right _ hnc
  have m4 : (n - 1) * s + s = n * s := by rw [← Nat.succ_mul]; congr 1; omega
  have m5 : (i + 1) * s = i * s + s := Nat.succ_mul _ _
  have hxl : xs.length = n * s := by rw [← htk]; simp; omega
  have hdl : (xs.drop ((i + 1) * s)).length = n * s - (i + 1) * s := by rw [List.length_drop, hxl]
  have b1 := setCells_block (g := g) (xs.drop ((i + 1) * s)) (i * s) (w.drewN m) cur hg (by omega)
  have b2 := setCells_block (g := g) (List.replicate s z) ((n - 1) * s) _ _ b1 (by simp; omega)
  refine ⟨⟨?_, .inr ⟨g, cap, _, rfl, Nat.zero_le _, b2, by omega, hcm, ?_, ?_⟩⟩, ?_⟩
  · simp only [List.length_append, List.length_take, hdl, hxl]; omega
  · simp only [List.size_toArray, List.length_append, List.length_take, List.length_drop, List.length_replicate, Array.length_toList, hcs, hxl]; omega
  · have e0 : cur.toList.take (i * s) = xs.take (i * s) := by rw [← htk, List.take_take, Nat.min_eq_left m1]
    have l1 : (xs.take (i * s) ++ xs.drop ((i + 1) * s)).length = (n - 1) * s := by
      rw [List.length_append, hdl, List.length_take, hxl, Nat.min_eq_left m1]; omega
    have e1 : (cur.toList.take (i * s) ++ xs.drop ((i + 1) * s) ++ cur.toList.drop (i * s + (xs.drop ((i + 1) * s)).length)).toArray.toList.take ((n - 1) * s) = xs.take (i * s) ++ xs.drop ((i + 1) * s) := by
      rw [e0, List.toList_toArray, List.take_left' l1]
    rw [e1, List.toList_toArray, List.append_assoc, List.take_left' l1]
  · have c1 := setCells_chg (g := g) (xs.drop ((i + 1) * s)) (i * s) (w.drewN m)
    have c2 := setCells_chg (g := g) (List.replicate s z) ((n - 1) * s) ((w.drewN m).setCells g (i * s) (xs.drop ((i + 1) * s)))
    have c := c1.trans c2 fun _ _ h => h
    exact ⟨c.os, c.tape, c.output, c.size, c.far⟩

end Go.Proofs.YtgpapegpdfonpaaGreat
