/-
  What the statements on sides and circles come to, in plain numbers.
-/
import Derived.Test.YtgpapegpdfonpaaWalksB
namespace Go.Proofs.Ytgpapegpdfonpaa
set_option linter.unusedVariables false
set_option linter.unusedSimpArgs false

/-- the answer of a circle -/
def circS (ax ay bx by' cx cy dx dy : Int) : Int := sg (sideN ax ay bx by' cx cy) * sg (circN ax ay bx by' cx cy dx dy)

theorem sg_neg (n : Int) : sg (-n) = - sg n := by unfold sg; split <;> split <;> (try split) <;> (try split) <;> omega
theorem sg_pos {n : Int} (h : 0 < n) : sg n = 1 := by unfold sg; rw [if_pos h]
theorem sg_neg' {n : Int} (h : n < 0) : sg n = -1 := by unfold sg; rw [if_neg (by omega), if_pos h]
theorem sg_zero : sg 0 = 0 := rfl

theorem side_mirror (px py qx qy rx ry : Int) : sideN (-px) py (-qx) qy (-rx) ry = - sideN px py qx qy rx ry := by unfold sideN; grind
theorem side_rot (px py qx qy rx ry : Int) : sideN qx qy rx ry px py = sideN px py qx qy rx ry := by unfold sideN; grind
theorem side_swap (px py qx qy rx ry : Int) : sideN qx qy px py rx ry = - sideN px py qx qy rx ry := by unfold sideN; grind
theorem side_turn (px py qx qy rx ry : Int) : sideN py px qy qx ry rx = - sideN px py qx qy rx ry := by unfold sideN; grind
theorem circ_turn (px py qx qy rx ry sx sy : Int) : circN py px qy qx ry rx sy sx = - circN px py qx qy rx ry sx sy := by unfold circN; grind
theorem circ_swap (px py qx qy rx ry sx sy : Int) : circN qx qy px py rx ry sx sy = - circN px py qx qy rx ry sx sy := by unfold circN; grind
theorem circ_rot (px py qx qy rx ry sx sy : Int) : circN rx ry px py qx qy sx sy = circN px py qx qy rx ry sx sy := by unfold circN; grind
theorem circ_on (px py qx qy rx ry : Int) : circN px py qx qy rx ry qx qy = 0 := by unfold circN; grind

theorem circS_turn (px py qx qy rx ry sx sy : Int) : circS py px qy qx ry rx sy sx = circS px py qx qy rx ry sx sy := by
  unfold circS; rw [side_turn, circ_turn, sg_neg, sg_neg, Int.neg_mul_neg]
theorem circS_swap (px py qx qy rx ry sx sy : Int) : circS qx qy px py rx ry sx sy = circS px py qx qy rx ry sx sy := by
  unfold circS; rw [side_swap, circ_swap, sg_neg, sg_neg, Int.neg_mul_neg]
theorem circS_rot (px py qx qy rx ry sx sy : Int) : circS rx ry px py qx qy sx sy = circS px py qx qy rx ry sx sy := by
  unfold circS; rw [circ_rot, side_rot rx ry px py qx qy, side_rot qx qy rx ry px py]
theorem circS_on (px py qx qy rx ry : Int) : circS px py qx qy rx ry qx qy = 0 := by
  unfold circS; rw [circ_on, sg_zero, Int.mul_zero]
theorem circS_bd (px py qx qy rx ry sx sy : Int) : -1 ≤ circS px py qx qy rx ry sx sy ∧ circS px py qx qy rx ry sx sy ≤ 1 := by
  unfold circS
  have h1 := sg_bd (sideN px py qx qy rx ry); have h2 := sg_bd (circN px py qx qy rx ry sx sy)
  have := @mul_bd _ _ 1 1 h1.1 h1.2 h2.1 h2.2
  omega
theorem circS_flat (px py qx qy rx ry sx sy : Int) (h : sideN px py qx qy rx ry = 0) : circS px py qx qy rx ry sx sy = 0 := by
  unfold circS; rw [h, sg_zero, Int.zero_mul]

/-- four points around -/
theorem swap1 (px py qx qy rx ry sx sy : Int) : circN px py rx ry sx sy qx qy = circN px py qx qy rx ry sx sy := by unfold circN; grind
theorem swap2 (px py qx qy rx ry sx sy : Int) : circN qx qy rx ry sx sy px py = - circN px py qx qy rx ry sx sy := by unfold circN; grind
theorem swap3 (px py qx qy rx ry sx sy : Int) : circN px py qx qy sx sy rx ry = - circN px py qx qy rx ry sx sy := by unfold circN; grind

end Go.Proofs.Ytgpapegpdfonpaa
