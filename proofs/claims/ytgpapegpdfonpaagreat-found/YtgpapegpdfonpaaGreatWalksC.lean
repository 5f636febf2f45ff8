/-
  Orient and InCircle: of points that are not too far out, and of others.
-/
import Derived.Test.YtgpapegpdfonpaaGreatWalksB
namespace Go.Proofs.YtgpapegpdfonpaaGreat
set_option linter.unusedVariables false
set_option linter.unusedSimpArgs false
open Go.RowKit

theorem pts3 (w : World) (o p q : Obj) (ax ay bx by' cx cy : Int) (T : TypeId) :
    PtsAt ((((w.alloc o).alloc p).alloc q).alloc (.cells #[.int .i64 ax, .int .i64 ay, .int .i64 bx, .int .i64 by', .int .i64 cx, .int .i64 cy] T)) (w.heap.size + 1 + 1 + 1) 0 [(ax, ay), (bx, by'), (cx, cy)] := by
  intro j hj
  have hj : j < 3 := hj
  rw [World.cell?_alloc_at _ _ _ _ (by simp), World.cell?_alloc_at _ _ _ _ (by simp)]
  match j, hj with
  | 0, _ => exact ⟨rfl, rfl⟩
  | 1, _ => exact ⟨rfl, rfl⟩
  | 2, _ => exact ⟨rfl, rfl⟩

theorem PtsAt.below {N : Nat} {w w' : World} {b off : Nat} {l : List (Int × Int)} (h : PtsAt w b off l) (hb : Below N w w') (hlt : b < N) : PtsAt w' b off l := fun j hj =>
  ⟨(hb.cell (p := ⟨b, off + j * 2, none⟩) hlt).trans (h j hj).1, (hb.cell (p := ⟨b, off + j * 2 + 1, none⟩) hlt).trans (h j hj).2⟩

theorem field_ask0 (f g : Fn) (a b : Array Value) (w : World) : (Instr.field 80 (.agg #[.func f #[] a, .func g #[] b]) 0).run Tryz.prog w = .ok (.func f #[] a) w := by kernel_rfl
theorem field_ask1 (f g : Fn) (a b : Array Value) (w : World) : (Instr.field 80 (.agg #[.func f #[] a, .func g #[] b]) 1).run Tryz.prog w = .ok (.func g #[] b) w := by kernel_rfl
attribute [local go_sem] field_ask0 field_ask1

theorem anyFar3 (ax ay bx by' cx cy : Int) : anyFarB [(ax, ay), (bx, by'), (cx, cy)] = (farB ax ay || farB bx by' || farB cx cy) := by
  simp [anyFarB, Bool.or_assoc]
theorem anyFar4 (ax ay bx by' cx cy dx dy : Int) : anyFarB [(ax, ay), (bx, by'), (cx, cy), (dx, dy)] = (farB ax ay || farB bx by' || farB cx cy || farB dx dy) := by
  simp [anyFarB, Bool.or_assoc]

theorem pts4 (w : World) (o p q r : Obj) (ax ay bx by' cx cy dx dy : Int) (T : TypeId) :
    PtsAt (((((w.alloc o).alloc p).alloc q).alloc r).alloc (.cells #[.int .i64 ax, .int .i64 ay, .int .i64 bx, .int .i64 by', .int .i64 cx, .int .i64 cy, .int .i64 dx, .int .i64 dy] T)) (w.heap.size + 1 + 1 + 1 + 1) 0 [(ax, ay), (bx, by'), (cx, cy), (dx, dy)] := by
  intro j hj
  have hj : j < 4 := hj
  rw [World.cell?_alloc_at _ _ _ _ (by simp), World.cell?_alloc_at _ _ _ _ (by simp)]
  match j, hj with
  | 0, _ => exact ⟨rfl, rfl⟩
  | 1, _ => exact ⟨rfl, rfl⟩
  | 2, _ => exact ⟨rfl, rfl⟩
  | 3, _ => exact ⟨rfl, rfl⟩

theorem below5 (w : World) (o p q r s : Obj) : Below w.heap.size w (((((w.alloc o).alloc p).alloc q).alloc r).alloc s) := (below4 w o p q r).alloc (by simp; omega) _

end Go.Proofs.YtgpapegpdfonpaaGreat
