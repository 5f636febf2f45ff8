/-
  mesh.Points.Insert, walked.
-/
import Derived.Test.YtgpapegpdfonpaaPtsB
import Derived.Test.YtgpapegpdfonpaaPtsR
import Derived.Deep.CutRange
import Derived.BigRegion
import Derived.BigQuiet
import Derived.Deep.DeepCutAuto
import Derived.Deep.CutBlock
namespace Go.Proofs.Ytgpapegpdfonpaa
set_option linter.unusedVariables false
set_option linter.unusedSimpArgs false
open Go.RowKit
attribute [local go_sem ↓] Go.wp_at_zero Go.wp_at_succ

theorem run_field_P0 (w : World) (K : Nat) : (Instr.fieldAt 74 (.pointer (some ⟨K, 0, none⟩)) 0).run Try.prog w = .ok (.pointer (some ⟨K, 0, none⟩)) w := by go_simp
theorem run_field_P1 (w : World) (K : Nat) : (Instr.fieldAt 74 (.pointer (some ⟨K, 0, none⟩)) 1).run Try.prog w = .ok (.pointer (some ⟨K, 1, none⟩)) w := by go_simp
theorem run_field_P2 (w : World) (K : Nat) : (Instr.fieldAt 74 (.pointer (some ⟨K, 0, none⟩)) 2).run Try.prog w = .ok (.pointer (some ⟨K, 2, none⟩)) w := by go_simp
theorem run_store_int (w : World) (K j : Nat) (v : Value) (n : Int) (h : w.cell? ⟨K, j, none⟩ = some v) (hf : w.frozen? ⟨K, j, none⟩ = false) : (Instr.storeAt 3 (.pointer (some ⟨K, j, none⟩)) (.int .i64 n)).run Try.prog w = .ok () (w.setCell ⟨K, j, none⟩ (.int .i64 n)) := by go_simp
theorem run_addE (w : World) (x y : Operand) (k : Nat) (h : k ≤ 2000000000000) : Sem.run Try.prog (do eqGuard .add 3 x y (.int .i64 (k : Int)) (.int .i64 1); binOp .add 3 (.int .i64 (k : Int)) (.int .i64 1)) w = .ok (.int .i64 ((k : Int) + 1)) w := by
  have y2 : IntKind.i64.wrap ((k : Int) + 1) = (k : Int) + 1 := wrap_id (by omega) (by omega)
  go_simp

/-! ### what is known while a point is put in -/
def valsI (m : Nat) (vA vN : Value) (px py : Int) (ever : Nat) : Nat → Option Value
  | 0 => some (.pointer (some ⟨m, 0, none⟩))
  | 1 => some (.pointer (some ⟨m, 0, none⟩))
  | 2 => some (.pointer (some ⟨m, 0, none⟩))
  | 3 => some (.pointer (some ⟨m, 0, none⟩))
  | 4 => some (.pointer (some ⟨m, 0, none⟩))
  | 5 => some (.pointer (some ⟨m, 0, none⟩))
  | 6 => some vA
  | 7 => some (pv px py)
  | 10 => some (.pointer (some ⟨m, 0, none⟩))
  | 11 => some (.pointer (some ⟨m, 0, none⟩))
  | 12 => some (.pointer (some ⟨m, 1, none⟩))
  | 13 => some vN
  | 14 => some (.int .i64 (ever : Int))
  | 17 => some (.int .i64 (ever : Int))
  | 18 => some (.int .i64 ((ever : Int) + 1))
  | 19 => some (.pointer (some ⟨m, 0, none⟩))
  | 20 => some (.pointer (some ⟨m, 0, none⟩))
  | 22 => some (.pointer (some ⟨m, 0, none⟩))
  | 23 => some (.pointer (some ⟨m, 1, none⟩))
  | 25 => some (.pointer (some ⟨m, 0, none⟩))
  | 26 => some (.pointer (some ⟨m, 2, none⟩))
  | _ => none
def chgI (m : Nat) (vA vN : Value) (k : Nat) : Prop := k = m ∨ vA.ownBlock = some k ∨ vN.ownBlock = some k
structure InsI (V : World) (m : Nat) (vA vN : Value) (pts : List Pt) (nums : List Int) (ever : Nat) (px py : Int) (BX : Nat) (L : Nat → Bool) (σ : Nat → Value) (w : World) : Prop where
  val : ∀ i v, valsI m vA vN px py ever i = some v → L i = true → σ i = v
  fA : Fap V 23 2 vA pts.length (cellsP pts) [.int .i64 px, .int .i64 py] (L 8) (L 9) (σ 8) (σ 9) w
  fN : Fap V 3 1 vN nums.length (nums.map (.int .i64)) [.int .i64 (ever : Int)] (L 15) (L 16) (σ 15) (σ 16) w
  fM : w.heap[m]? = some (.cells #[if L 21 then σ 9 else vA, if L 24 then σ 16 else vN, .int .i64 (if L 27 then (ever : Int) + 1 else ever)] 76 (0, 0))
  chg : Chg (chgI m vA vN) V w
  box : L 9 = false → w.cell? ⟨BX, 0, none⟩ = V.cell? ⟨BX, 0, none⟩ ∧ w.cell? ⟨BX, 1, none⟩ = V.cell? ⟨BX, 1, none⟩
section
variable {V w w' : World} {m : Nat} {vA vN : Value} {pts : List Pt} {nums : List Int} {ever : Nat} {px py : Int} {BX : Nat} {L : Nat → Bool} {σ : Nat → Value} {i : Nat} {v : Value}
theorem InsI.stepV (h : InsI V m vA vN pts nums ever px py BX L σ w) (hv : valsI m vA vN px py ever i = some v) : InsI V m vA vN pts nums ever px py BX (fun j => if j = i then true else L j) (fun j => if j = i then v else σ j) w := by
  have ne : ∀ j, valsI m vA vN px py ever j = none → j ≠ i := fun j hj e => by rw [e, hv] at hj; cases hj
  have n8 := ne 8 rfl
  have n9 := ne 9 rfl
  have n15 := ne 15 rfl
  have n16 := ne 16 rfl
  have n21 := ne 21 rfl
  have n24 := ne 24 rfl
  have n27 := ne 27 rfl
  refine ⟨fun j u hj hl => ?_, ?_, ?_, ?_, h.chg, ?_⟩
  · by_cases e : j = i
    · subst e; rw [hv] at hj; cases hj; simp
    · simp only [if_neg e] at hl ⊢; exact h.val j u hj hl
  · simp only [if_neg n8, if_neg n9]; exact h.fA
  · simp only [if_neg n15, if_neg n16]; exact h.fN
  · simp only [if_neg n21, if_neg n24, if_neg n27, if_neg n9, if_neg n16]; exact h.fM
  · simp only [if_neg n9]; exact h.box
/-- any other step -/
theorem InsI.stepW (h : InsI V m vA vN pts nums ever px py BX L σ w) (hv : valsI m vA vN px py ever i = none)
    (fA : Fap V 23 2 vA pts.length (cellsP pts) [.int .i64 px, .int .i64 py] (if 8 = i then true else L 8) (if 9 = i then true else L 9) (if 8 = i then v else σ 8) (if 9 = i then v else σ 9) w')
    (fN : Fap V 3 1 vN nums.length (nums.map (.int .i64)) [.int .i64 (ever : Int)] (if 15 = i then true else L 15) (if 16 = i then true else L 16) (if 15 = i then v else σ 15) (if 16 = i then v else σ 16) w')
    (fM : w'.heap[m]? = some (.cells #[if (if 21 = i then true else L 21) = true then (if 9 = i then v else σ 9) else vA, if (if 24 = i then true else L 24) = true then (if 16 = i then v else σ 16) else vN, .int .i64 (if (if 27 = i then true else L 27) = true then (ever : Int) + 1 else ever)] 76 (0, 0)))
    (hc : Chg (chgI m vA vN) w w') (hb : (if 9 = i then true else L 9) = false → w'.cell? ⟨BX, 0, none⟩ = w.cell? ⟨BX, 0, none⟩ ∧ w'.cell? ⟨BX, 1, none⟩ = w.cell? ⟨BX, 1, none⟩) :
    InsI V m vA vN pts nums ever px py BX (fun j => if j = i then true else L j) (fun j => if j = i then v else σ j) w' := by
  refine ⟨fun j u hj hl => ?_, fA, fN, fM, h.chg.trans hc fun _ _ g => g, fun e => ?_⟩
  · have e : j ≠ i := fun e => by rw [e, hv] at hj; cases hj
    simp only [if_neg e] at hl ⊢; exact h.val j u hj hl
  · have e' : L 9 = false := by
      by_cases c : 9 = i
      · simp [c] at e
      · simpa [if_neg c] using e
    obtain ⟨b0, b1⟩ := h.box e'
    obtain ⟨c0, c1⟩ := hb e
    exact ⟨c0.trans b0, c1.trans b1⟩
theorem InsI.cells (h : InsI V m vA vN pts nums ever px py BX L σ w) : w.cell? ⟨m, 0, none⟩ = some (if L 21 then σ 9 else vA) ∧ w.cell? ⟨m, 1, none⟩ = some (if L 24 then σ 16 else vN) ∧ w.cell? ⟨m, 2, none⟩ = some (.int .i64 (if L 27 then (ever : Int) + 1 else ever)) ∧ ∀ j, w.frozen? ⟨m, j, none⟩ = false := by
  have hb := h.fM
  simp [World.cell?, World.frozen?, hb]
end
end Go.Proofs.Ytgpapegpdfonpaa
