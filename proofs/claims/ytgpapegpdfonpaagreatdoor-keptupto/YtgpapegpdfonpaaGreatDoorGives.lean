/-
  More of what an operation gives: an index, a sum, a remainder, a length.
-/
import Derived.Test.YtgpapegpdfonpaaGreatDoorWalksK
namespace Go.Proofs.YtgpapegpdfonpaaGreatDoor
set_option linter.unusedVariables false
set_option linter.unusedSimpArgs false
open Go.RowKit
theorem gives_index {P : Program} {o : Oper} {ρ : Operand → Value} {w : World} {R : Value → World → Prop} {T : TypeId} {x y : Operand} {vx vy v : Value} (hop : o.op = .indexAddr T x y) (hx : ρ x = vx) (hy : ρ y = vy)
    (hrun : (Instr.indexAt T vx vy).run P w = .ok v w) (hR : R v w) : Gives P o ρ w R := by
  refine Gives.value v w ?_ hR
  simp only [execOp, hop, hx, hy, Sem.run_bind, hrun, Result.andThen_ok, Sem.run_pure]
theorem gives_bin {P : Program} {o : Oper} {ρ : Operand → Value} {w : World} {R : Value → World → Prop} {T T' : TypeId} {b : BinOp} {x y : Operand} {vx vy v : Value} (hop : o.op = .binOp b T x y T') (hx : ρ x = vx) (hy : ρ y = vy)
    (hrun : Sem.run P (do eqGuard b T x y vx vy; binOp b T vx vy) w = .ok v w) (hR : R v w) : Gives P o ρ w R := by
  refine Gives.value v w ?_ hR
  simp only [execOp, hop, hx, hy, Sem.run_bind] at hrun ⊢
  rw [hrun]
  rfl
theorem gives_len {o : Oper} {ρ : Operand → Value} {w : World} {R : Value → World → Prop} {x : Operand} {T : TypeId} {a : Option Addr} {n c : Nat} (hT : T = 26 ∨ T = 41) (hop : o.op = .call { callee := .builtin .len, args := #[x], argTypes := #[T] }) (hx : ρ x = .slice a n c)
    (hR : R (.int .i64 (n : Int)) w) : Gives Tryz.prog o ρ w R := by
  refine Gives.value _ w ?_ hR
  obtain ⟨dst, op, ty, pos, after, guard⟩ := o
  simp only at hop
  subst hop
  rcases hT with rfl | rfl
  · simp only [execOp, resolve]
    go_simp
  · simp only [execOp, resolve]
    go_simp
theorem run_index_pt (w : World) (g n cap i : Nat) (h : i < n) : (Instr.indexAt 41 (.slice (some ⟨g, 0, none⟩) n cap) (.int .i64 (i : Int))).run Tryz.prog w = .ok (.pointer (some ⟨g, i * 2, none⟩)) w := by
  have h1 : (0 : Int) ≤ (i : Int) := by omega
  have h2 : (i : Int) < (n : Int) := by omega
  go_simp
theorem run_index_int (w : World) (g n cap i : Nat) (h : i < n) : (Instr.indexAt 26 (.slice (some ⟨g, 0, none⟩) n cap) (.int .i64 (i : Int))).run Tryz.prog w = .ok (.pointer (some ⟨g, i, none⟩)) w := by
  have h1 : (0 : Int) ≤ (i : Int) := by omega
  have h2 : (i : Int) < (n : Int) := by omega
  go_simp
theorem run_load_int (w : World) (g i : Nat) (z : Value) (h : w.cell? ⟨g, i, none⟩ = some z) : (Instr.loadAt 3 (.pointer (some ⟨g, i, none⟩))).run Tryz.prog w = .ok z w := by
  go_simp
theorem run_add1 (w : World) (x y : Operand) (k : Nat) (h : k ≤ 1000000) : Sem.run Tryz.prog (do eqGuard .add 3 x y (.int .i64 (k : Int)) (.int .i64 1); binOp .add 3 (.int .i64 (k : Int)) (.int .i64 1)) w = .ok (.int .i64 ((k + 1 : Nat) : Int)) w := by
  have e : IntKind.i64.wrap ((k : Int) + 1) = (k : Int) + 1 := wrap_id (by omega) (by omega)
  go_simp
theorem run_rem (w : World) (x y : Operand) (k n : Nat) (h : k ≤ 1000000) (hn : 0 < n) : Sem.run Tryz.prog (do eqGuard .rem 3 x y (.int .i64 (k : Int)) (.int .i64 (n : Int)); binOp .rem 3 (.int .i64 (k : Int)) (.int .i64 (n : Int))) w = .ok (.int .i64 ((k % n : Nat) : Int)) w := by
  have e : (k : Int).tmod (n : Int) = (k : Int) % (n : Int) := Int.tmod_eq_emod_of_nonneg (by omega)
  have e2 : ¬ n = 0 := by omega
  go_simp
theorem two_vars {W wx V1 V2 : World} {b9 b10 : Nat} {T : TypeId} {x1 y1 x2 y2 : Value} (h : Below W.heap.size W wx) (g9 : W.heap.size ≤ b9) (g10 : W.heap.size ≤ b10)
    (n1 : b9 ≠ b10) (h9 : wx.heap[b9]? = some (.cells #[.int .i64 0, .int .i64 0] T)) (h10 : wx.heap[b10]? = some (.cells #[.int .i64 0, .int .i64 0] T))
    (e1 : (wx.setCell ⟨b9, 0, none⟩ x1).setCell ⟨b9, 1, none⟩ y1 = V1) (e2 : (V1.setCell ⟨b10, 0, none⟩ x2).setCell ⟨b10, 1, none⟩ y2 = V2) :
    Below W.heap.size W V2 ∧ V2.heap[b9]? = some (.cells #[x1, y1] T) ∧ V2.heap[b10]? = some (.cells #[x2, y2] T) ∧ V2.heap.size = wx.heap.size := by
  subst e1; subst e2
  refine ⟨put2_below (put2_below h g9 _ _) g10 _ _, ?_, ?_, by rw [put2_size, put2_size]⟩
  · rw [put2_ne _ n1, put2_at h9 rfl]
  · rw [put2_at (by rw [put2_ne _ (Ne.symm n1)]; exact h10) rfl]
end Go.Proofs.YtgpapegpdfonpaaGreatDoor
