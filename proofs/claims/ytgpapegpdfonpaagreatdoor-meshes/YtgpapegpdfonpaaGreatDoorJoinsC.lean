/-
  The statement's steps, by the whole book: World.step, World.plays up to kind 4, Joins.
-/
import Derived.Test.YtgpapegpdfonpaaGreatDoorJoinsAB
import Derived.Test.YtgpapegpdfonpaaGreatDoorLawEG
set_option linter.unusedVariables false
set_option linter.unusedSimpArgs false
namespace Go.Proofs.YtgpapegpdfonpaaGreatDoor
open Go.RowKit
attribute [local go_sem ↓] Go.wp_at_zero Go.wp_at_succ
theorem LowAt.for {WB N : Nat} {v0 : Value} {tag : Nat → Nat} {w : World} {a : Option Addr} {l : List Pt} (h : LowAt WB w a l) (hB : Bks w WB v0 tag N) : ForAt tag w a l := by
 rcases h with h | ⟨b, off, e, hlt, hp⟩
 ·exact .inl h
 ·exact .inr ⟨b, off, e, Nat.lt_trans hlt hB.lt, hB.low b hlt, hp⟩
theorem wpoints_any (WB N : Nat) (v0 : Value) (tag : Nat → Nat) (kd n wh ax ay bx by' cx cy dx dy : Int) (la : Option Addr) (l : List Pt) (lc : Nat) (ta : Option Addr) (tn tc : Nat) (s : ByteArray) (w : World) (h : Bks w WB v0 tag N) (hN : N ≤ 925904528800) (hr : ForAt tag w la l) (hl : l.length ≤ 8796093021952) (h1 : 1 ≤ kd) (h3 : kd ≤ 3) :
  Calls Tryz.prog 19 #[.pointer (some ⟨WB, 0, none⟩), opVal kd n wh ax ay bx by' cx cy dx dy la l.length lc ta tn tc s] w fun e w' => e = .returned (.bool true) ∧ StepOk WB v0 N tag w w' := by
 have hk : kd = 1 ∨ kd = 2 ∨ kd = 3 := by omega
 rcases hk with rfl | rfl | rfl
 ·refine (points_orient WB n wh ax ay bx by' cx cy dx dy la l.length lc ta tn tc s w).mono ?_
  rintro e w' ⟨rfl, hb⟩
  exact ⟨rfl, StepOk.of_below h hb⟩
 ·refine (points_circle WB n wh ax ay bx by' cx cy dx dy la l.length lc ta tn tc s w).mono ?_
  rintro e w' ⟨rfl, hb⟩
  exact ⟨rfl, StepOk.of_below h hb⟩
 ·exact bpoints_hull WB N v0 tag n wh ax ay bx by' cx cy dx dy la l lc ta tn tc s w h hN hr hl
set_option maxHeartbeats 2000000 in
set_option maxRecDepth 100000 in
theorem wstep_none (WB N : Nat) (ma : Option Addr) (mn mc : Nat) (tag : Nat → Nat) (kd n wh ax ay bx by' cx cy dx dy : Int) (la : Option Addr) (ln : Nat) (lc : Nat) (ta : Option Addr) (tn tc : Nat) (s : ByteArray) (w : World) (h : Bks w WB (.slice ma mn mc) tag N) (h1 : kd < 1) :
  Calls Tryz.prog 10 #[.pointer (some ⟨WB, 0, none⟩), opVal kd n wh ax ay bx by' cx cy dx dy la ln lc ta tn tc s] w fun e w' => e = .returned (.bool true) ∧ Below w.heap.size w w' := by
 have hWB := h.lt
 have c0 := h.cell0
 clear h
 have d1 : decide (1 ≤ kd) = false := decide_eq_false (by omega)
 have x4 : (kd == 4) = false := beq_eq_false_iff_ne.2 (by omega)
 have x5 : (kd == 5) = false := beq_eq_false_iff_ne.2 (by omega)
 have x12 : (kd == 12) = false := beq_eq_false_iff_ne.2 (by omega)
 have x13 : (kd == 13) = false := beq_eq_false_iff_ne.2 (by omega)
 have y1 : ¬ (1 ≤ kd) := by omega
 have y4 : ¬ kd = 4 := by omega
 have y5 : ¬ kd = 5 := by omega
 have y12 : ¬ kd = 12 := by omega
 have y13 : ¬ kd = 13 := by omega
 by_cases h0 : mn = 0
 ·subst h0
  go_enter Tryz.func10, Tryz.ntmps10
  go_wp2
  go_ret
  exact ⟨rfl, below1 _ _⟩
 ·have z0 : ((mn : Int) == 0) = false := beq_eq_false_iff_ne.2 (by omega)
  have z1 : ¬ ((mn : Int) = 0) := by omega
  go_enter Tryz.func10, Tryz.ntmps10
  go_wp2
  go_ret
  exact ⟨rfl, below1 _ _⟩
set_option maxHeartbeats 2000000 in
set_option maxRecDepth 100000 in
theorem wstep_points (WB N : Nat) (v0 : Value) (tag : Nat → Nat) (kd n wh ax ay bx by' cx cy dx dy : Int) (la : Option Addr) (l : List Pt) (lc : Nat) (ta : Option Addr) (tn tc : Nat) (s : ByteArray) (w : World) (h : Bks w WB v0 tag N) (hN : N ≤ 925904528800) (hr : ForAt tag w la l) (hl : l.length ≤ 8796093021952) (h1 : 1 ≤ kd) (h3 : kd ≤ 3) :
  Calls Tryz.prog 10 #[.pointer (some ⟨WB, 0, none⟩), opVal kd n wh ax ay bx by' cx cy dx dy la l.length lc ta tn tc s] w fun e w' => e = .returned (.bool true) ∧ StepOk WB v0 N tag w w' := by
 have FP := fun o => wpoints_any WB N v0 tag kd n wh ax ay bx by' cx cy dx dy la l lc ta tn tc s (w.alloc o) (h.below (below1 w o)) hN (hr.below (below1 w o)) hl h1 h3
 clear h hr hl hN
 go_enter Tryz.func10, Tryz.ntmps10
 go_wp2_with (go_at_call 19; refine (FP _).mono ?_; rintro e w1 ⟨rfl, hb1⟩)
 go_ret
 exact ⟨rfl, hb1.pre⟩
set_option maxHeartbeats 2000000 in
set_option maxRecDepth 100000 in
theorem wstep_joins (WB N : Nat) (v0 : Value) (tag : Nat → Nat) (n wh ax ay bx by' cx cy dx dy : Int) (la : Option Addr) (l : List Pt) (lc : Nat) (ta : Option Addr) (tn tc : Nat) (s : ByteArray) (w : World) (h : Bks w WB v0 tag N) (hN : N ≤ 925904528800) (hr : ForAt tag w la l) (hl : l.length ≤ 8796093021952) :
  Calls Tryz.prog 10 #[.pointer (some ⟨WB, 0, none⟩), opVal 4 n wh ax ay bx by' cx cy dx dy la l.length lc ta tn tc s] w fun e w' => e = .returned (.bool true) ∧ StepOk WB v0 N tag w w' := by
 have FP := fun o => bjoins_any WB N v0 tag n wh ax ay bx by' cx cy dx dy la l lc ta tn tc s (w.alloc o) (h.below (below1 w o)) hN (hr.below (below1 w o)) hl
 clear h hr hl hN
 go_enter Tryz.func10, Tryz.ntmps10
 go_wp2_with (go_at_call 20; refine (FP _).mono ?_; rintro e w1 ⟨rfl, hb1⟩)
 go_ret
 exact ⟨rfl, hb1.pre⟩
theorem wstep4 (WB N : Nat) (ma : Option Addr) (mn mc : Nat) (tag : Nat → Nat) (kd n wh ax ay bx by' cx cy dx dy : Int) (la : Option Addr) (l : List Pt) (lc : Nat) (ta : Option Addr) (tn tc : Nat) (s : ByteArray) (w : World) (h : Bks w WB (.slice ma mn mc) tag N) (hN : N ≤ 925904528800) (hr : ForAt tag w la l) (hl : l.length ≤ 8796093021952) (h3 : kd ≤ 4) :
  Calls Tryz.prog 10 #[.pointer (some ⟨WB, 0, none⟩), opVal kd n wh ax ay bx by' cx cy dx dy la l.length lc ta tn tc s] w fun e w' => e = .returned (.bool true) ∧ StepOk WB (.slice ma mn mc) N tag w w' := by
 by_cases h1 : 1 ≤ kd
 ·by_cases h4 : kd = 4
  ·subst h4
   exact wstep_joins WB N _ tag n wh ax ay bx by' cx cy dx dy la l lc ta tn tc s w h hN hr hl
  ·exact wstep_points WB N _ tag kd n wh ax ay bx by' cx cy dx dy la l lc ta tn tc s w h hN hr hl h1 (by omega)
 ·refine (wstep_none WB N ma mn mc tag kd n wh ax ay bx by' cx cy dx dy la l.length lc ta tn tc s w h (by omega)).mono ?_
  rintro e w' ⟨rfl, hb⟩
  exact ⟨rfl, StepOk.of_below h hb⟩
theorem bkeptB_any (WB N : Nat) (v0 : Value) (tag : Nat → Nat) (w : World) (h : Bks w WB v0 tag N) (hN : N ≤ 925904529000) : Calls Tryz.prog 18 #[.pointer (some ⟨WB, 1, none⟩)] w fun e w' => e = .returned (.bool true) ∧ Below w.heap.size w w' := by
 obtain ⟨sh, nk, hB, hlen, hk⟩ := h
 exact bkept_any WB nk v0 tag sh w hB (fun j hj => (hlen j hj).1) fun j hj => by have := (hlen j hj).2; omega
def sh0 : Nat → Sh := fun _ => ⟨.slice none 0 0, .slice none 0 0, [], []⟩
theorem bk_new (w : World) : Bks (w.alloc (.cells #[.slice none 0 0, .slice none 0 0, .slice none 0 0, .slice none 0 0, .slice none 0 0, .slice none 0 0, .slice none 0 0, .int .i64 0] 32)) w.heap.size (.slice none 0 0) (fun k => if k = w.heap.size then 4 else 0) 0 := by
 refine ⟨sh0, 0, ⟨heap_alloc_new _ _, if_pos rfl, fun k hk => ?_, fun k hk => if_neg (by omega), fun j _ => ⟨World.ownsRow_nil _ _ _ _, World.ownsRow_nil _ _ _ _, (fun g hg => by cases hg), (fun g hg => by cases hg), (fun e he => by cases he)⟩⟩, fun j _ => ⟨rfl, Nat.le_refl _⟩, Nat.le_refl _⟩
 by_cases e : k = w.heap.size
 ·subst e; simp
 ·exact absurd (if_neg e) hk
end Go.Proofs.YtgpapegpdfonpaaGreatDoor
