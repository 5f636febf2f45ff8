/-
  The statement on sides, circles and hulls, walked.
-/
import Derived.Test.YtgpapegpdfonpaaGreatDoorLawG
namespace Go.Proofs.YtgpapegpdfonpaaGreatDoor
set_option linter.unusedVariables false
set_option linter.unusedSimpArgs false
open Go.RowKit
attribute [local go_sem ↓] Go.wp_at_zero Go.wp_at_succ

theorem book_new (w : World) : Books (w.alloc (.cells #[.slice none 0 0, .slice none 0 0, .slice none 0 0, .slice none 0 0, .slice none 0 0, .slice none 0 0, .slice none 0 0, .int .i64 0] 32)) w.heap.size 0 :=
  ⟨.slice none 0 0, .slice none 0 0, [], [], 0, ⟨heap_alloc_new _ _, World.ownsRow_nil _ _ _ _, World.ownsRow_nil _ _ _ _, fun e he => by cases he⟩, rfl, Nat.le_refl _, Nat.le_refl _⟩
theorem orient_first (w : World) : Calls Tryz.prog 8 #[.agg #[.int .i64 0, .int .i64 0], .agg #[.int .i64 4, .int .i64 0], .agg #[.int .i64 0, .int .i64 3]] w fun e w' =>
    e = .returned (.tuple #[.int .i64 1, .int .i64 0]) ∧ Below w.heap.size w w' := by
  refine (orient_any 0 0 4 0 0 3 w).mono ?_
  rintro e w' ⟨rfl, hb⟩
  exact ⟨by rfl, hb⟩

set_option maxHeartbeats 2000000 in
set_option maxRecDepth 100000 in
theorem sides_walk (a : Option Addr) (cap : Nat) (os : List OpD) (w : World) (hs : ScriptAt w.heap.size w a os) (hl : os.length ≤ 925904528626) :
    Calls Tryz.prog 3 #[.slice a os.length cap] w fun e w' => e = .returned (.bool true) ∧ Below w.heap.size w w' := by
  have HS : Hid (ScriptAt w.heap.size w a os) := hs
  have HL : Hid (os.length ≤ 925904528626) := hl
  clear hs hl
  go_enter Tryz.func3, Tryz.ntmps3
  go_upto_region 2 with fail
  have hB0 := book_new w
  have hb0 := below1 w (.cells #[.slice none 0 0, .slice none 0 0, .slice none 0 0, .slice none 0 0, .slice none 0 0, .slice none 0 0, .slice none 0 0, .int .i64 0] 32)
  generalize w.alloc (.cells #[.slice none 0 0, .slice none 0 0, .slice none 0 0, .slice none 0 0, .slice none 0 0, .slice none 0 0, .slice none 0 0, .int .i64 0] 32) = W0 at *
  go_upto_region 3 with (go_at_call 8; refine (orient_first _).mono ?_; rintro e w1 ⟨rfl, hb1⟩)
  have hb01 := hb0.trans (hb1.mono hb0.size)
  have FP := plays_any w.heap.size a cap os w1 (hB0.below hb1) (HS.out.below hb01) HL.out
  clear hB0 hb0 hb1
  go_wp2_with (go_at_call 9; refine FP.mono ?_; rintro e w2 ⟨rfl, hb2⟩)
  go_ret
  exact ⟨rfl, hb01.trans hb2⟩

end Go.Proofs.YtgpapegpdfonpaaGreatDoor
