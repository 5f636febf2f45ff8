/-
  The small functions of the package join.
-/
import Derived.Test.YtgpapegpdfonpaaJoinA
import Derived.Test.YtgpapegpdfonpaaGrow
namespace Go.Proofs.Ytgpapegpdfonpaa
set_option linter.unusedVariables false
set_option linter.unusedSimpArgs false
open Go.RowKit Go.Maps

abbrev iv (a : Int) : Value := .int .i64 a
abbrev triV (a b c : Int) : Value := .agg #[.int .i64 a, .int .i64 b, .int .i64 c]
/-- the turn that begins with the least number -/
def rotL (a b c : Int) : Int × Int × Int := if a ≤ b ∧ a ≤ c then (a, b, c) else if b ≤ c ∧ b ≤ a then (b, c, a) else (c, a, b)
def rotV (a b c : Int) : Value := triV (rotL a b c).1 (rotL a b c).2.1 (rotL a b c).2.2

theorem turned_any (a b : Int) (w : World) :
    Calls Try.prog 68 #[keyv a b] w fun e w' => e = .returned (keyv b a) ∧ Below w.heap.size w w' := by
  go_enter Try.func68, Try.ntmps68
  go_wp2
  exact bodyPost_ret (v := keyv b a) (by simp [results, Try.results68, go_sem]) rfl ⟨rfl, below2 _ _ _⟩

set_option maxHeartbeats 1000000 in
theorem fromLeast0 (a b c : Int) (w : World) (h : a ≤ b ∧ a ≤ c) :
    Calls Try.prog 89 #[triV a b c] w fun e w' => e = .returned (triV a b c) ∧ Below w.heap.size w w' := by
  have h1 : ¬ (min b c < a) := by omega
  go_enter Try.func89, Try.ntmps89
  go_wp2
  refine wp_loop_rounds 1 ?_
  rw [rounds_succ]
  go_wp2
  all_goals exact bodyPost_ret (v := triV a b c) (by simp [results, Try.results89, go_sem]) rfl ⟨rfl, below2 _ _ _⟩

set_option maxHeartbeats 1000000 in
theorem fromLeast1 (a b c : Int) (w : World) (h : b < a ∨ c < a) (h' : b ≤ c ∧ b ≤ a) :
    Calls Try.prog 89 #[triV a b c] w fun e w' => e = .returned (triV b c a) ∧ Below w.heap.size w w' := by
  have h1 : min b c < a := by omega
  have h2 : ¬ (min c a < b) := by omega
  have h3 : ¬ (c < b) := by omega
  have h4 : ¬ (a < b) := by omega
  go_enter Try.func89, Try.ntmps89
  go_wp2
  refine wp_loop_rounds 2 ?_
  rw [rounds_succ]
  go_wp2
  rw [rounds_succ]
  go_wp2
  all_goals exact bodyPost_ret (v := triV b c a) (by simp [results, Try.results89, go_sem]) rfl ⟨rfl, below2 _ _ _⟩

set_option maxHeartbeats 1000000 in
theorem fromLeast2 (a b c : Int) (w : World) (h : b < a ∨ c < a) (h' : c < b ∨ a < b) :
    Calls Try.prog 89 #[triV a b c] w fun e w' => e = .returned (triV c a b) ∧ Below w.heap.size w w' := by
  have h1 : min b c < a := by omega
  have h2 : min c a < b := by omega
  have h3 : ¬ (min a b < c) := by omega
  have h5 : c < b := by omega
  have h6 : c < a := by omega
  go_enter Try.func89, Try.ntmps89
  go_wp2
  refine wp_loop_rounds 3 ?_
  rw [rounds_succ]
  go_wp2
  rw [rounds_succ]
  go_wp2
  rw [rounds_succ]
  go_wp2
  all_goals exact bodyPost_ret (v := triV c a b) (by simp [results, Try.results89, go_sem]) rfl ⟨rfl, below2 _ _ _⟩

theorem fromLeast_any (a b c : Int) (w : World) :
    Calls Try.prog 89 #[triV a b c] w fun e w' => e = .returned (rotV a b c) ∧ Below w.heap.size w w' := by
  unfold rotV rotL
  by_cases h : a ≤ b ∧ a ≤ c
  · rw [if_pos h]; exact fromLeast0 a b c w h
  · rw [if_neg h]
    by_cases h' : b ≤ c ∧ b ≤ a
    · rw [if_pos h']; exact fromLeast1 a b c w (by omega) h'
    · rw [if_neg h']; exact fromLeast2 a b c w (by omega) (by omega)
end Go.Proofs.Ytgpapegpdfonpaa
