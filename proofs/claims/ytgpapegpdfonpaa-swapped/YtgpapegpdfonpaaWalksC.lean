/-
  Orient and InCircle: of points that are not too far out, and of others.
-/
import Derived.Test.YtgpapegpdfonpaaWalksB
namespace Go.Proofs.Ytgpapegpdfonpaa
set_option linter.unusedVariables false
set_option linter.unusedSimpArgs false
open Go.RowKit

theorem pts3 (w : World) (o p q : Obj) (ax ay bx by' cx cy : Int) (T : TypeId) :
    PtsAt ((((w.alloc o).alloc p).alloc q).alloc (.cells #[.int .i64 ax, .int .i64 ay, .int .i64 bx, .int .i64 by', .int .i64 cx, .int .i64 cy] T)) (w.heap.size + 1 + 1 + 1) 0 [(ax, ay), (bx, by'), (cx, cy)] := by
  intro j hj
  have hj : j < 3 := hj
  rw [World.cell?_alloc_at _ _ _ _ (by simp), World.cell?_alloc_at _ _ _ _ (by simp)]
  match j, hj with
  | 0, _ => exact ⟨rfl, rfl⟩
  | 1, _ => exact ⟨rfl, rfl⟩
  | 2, _ => exact ⟨rfl, rfl⟩

theorem PtsAt.below {N : Nat} {w w' : World} {b off : Nat} {l : List (Int × Int)} (h : PtsAt w b off l) (hb : Below N w w') (hlt : b < N) : PtsAt w' b off l := fun j hj =>
  ⟨(hb.cell (p := ⟨b, off + j * 2, none⟩) hlt).trans (h j hj).1, (hb.cell (p := ⟨b, off + j * 2 + 1, none⟩) hlt).trans (h j hj).2⟩

theorem field_ask0 (f g : Fn) (a b : Array Value) (w : World) : (Instr.field 66 (.agg #[.func f #[] a, .func g #[] b]) 0).run Try.prog w = .ok (.func f #[] a) w := by kernel_rfl
theorem field_ask1 (f g : Fn) (a b : Array Value) (w : World) : (Instr.field 66 (.agg #[.func f #[] a, .func g #[] b]) 1).run Try.prog w = .ok (.func g #[] b) w := by kernel_rfl
attribute [local go_sem] field_ask0 field_ask1

theorem anyFar3 (ax ay bx by' cx cy : Int) : anyFarB [(ax, ay), (bx, by'), (cx, cy)] = (farB ax ay || farB bx by' || farB cx cy) := by
  simp [anyFarB, Bool.or_assoc]
theorem anyFar4 (ax ay bx by' cx cy dx dy : Int) : anyFarB [(ax, ay), (bx, by'), (cx, cy), (dx, dy)] = (farB ax ay || farB bx by' || farB cx cy || farB dx dy) := by
  simp [anyFarB, Bool.or_assoc]

set_option maxHeartbeats 1000000 in
theorem orient_far (ax ay bx by' cx cy : Int) (w : World) (hf : (farB ax ay || farB bx by' || farB cx cy) = true) :
    Calls Try.prog 22 #[.agg #[.int .i64 ax, .int .i64 ay], .agg #[.int .i64 bx, .int .i64 by'], .agg #[.int .i64 cx, .int .i64 cy]] w fun e w' =>
      e = .returned (.tuple #[.int .i64 0, .int .i64 1]) ∧ Below w.heap.size w w' := by
  go_enter Try.func22, Try.ntmps22
  go_wp2_with (go_at_call 36; refine (anyFar_any _ 0 3 [(ax, ay), (bx, by'), (cx, cy)] _ (by simp) (by simp) (pts3 _ _ _ _ _ _ _ _ _ _ _)).mono ?_; rintro e w1 ⟨rfl, hb1⟩; rw [anyFar3, hf])
  go_ret2
  exact ⟨rfl, (below4 _ _ _ _ _).trans (hb1.mono (by simp; omega))⟩

set_option maxHeartbeats 1000000 in
theorem orient_near (ax ay bx by' cx cy : Int) (w : World) (a : Near ax ay) (b : Near bx by') (c : Near cx cy) :
    Calls Try.prog 22 #[.agg #[.int .i64 ax, .int .i64 ay], .agg #[.int .i64 bx, .int .i64 by'], .agg #[.int .i64 cx, .int .i64 cy]] w fun e w' =>
      e = .returned (.tuple #[.int .i64 (sg (sideN ax ay bx by' cx cy)), .int .i64 0]) ∧ Below w.heap.size w w' := by
  have hf : (farB ax ay || farB bx by' || farB cx cy) = false := by rw [near_farB a, near_farB b, near_farB c]; rfl
  have hn : AllNear [(ax, ay), (bx, by'), (cx, cy)] := by
    intro j hj
    have hj : j < 3 := hj
    match j, hj with
    | 0, _ => exact a
    | 1, _ => exact b
    | 2, _ => exact c
  go_enter Try.func22, Try.ntmps22
  go_wp2_with (go_at_call 36; refine (anyFar_any _ 0 3 [(ax, ay), (bx, by'), (cx, cy)] _ (by simp) (by simp) (pts3 _ _ _ _ _ _ _ _ _ _ _)).mono ?_; rintro e w1 ⟨rfl, hb1⟩; rw [anyFar3, hf])
  have hp1 := (pts3 w (.cells #[.int .i64 ax, .int .i64 ay] 23) (.cells #[.int .i64 bx, .int .i64 by'] 23) (.cells #[.int .i64 cx, .int .i64 cy] 23) ax ay bx by' cx cy 23).below hb1 (by simp)
  have hw1 : Below w.heap.size w w1 := (below4 _ _ _ _ _).trans (hb1.mono (by simp; omega))
  have hz1 : w.heap.size + 1 + 1 + 1 < w1.heap.size := by have := hb1.size; simp at this; omega
  clear hb1 hf
  refine (askOf_any _ 3 3 w1).mono ?_
  rintro e w2 ⟨B, hB1, hB2, hcB, rfl, hb2⟩
  have hp2 := hp1.below hb2 hz1
  have hw2 : Below w.heap.size w w2 := hw1.trans (hb2.mono hw1.size)
  have hz2 : w.heap.size + 1 + 1 + 1 < w2.heap.size := Nat.lt_of_lt_of_le hz1 hb2.size
  clear hp1 hw1 hz1 hb2 hB1
  go_wp2_with (go_at_call 46; refine (ask1_any B _ 0 3 [(ax, ay), (bx, by'), (cx, cy)] 0 1 2 w2 (by simp) (by simp) (by simp) (by simp) hz2 hB2 hcB hp2 hn).mono ?_; rintro e w3 ⟨rfl, hb3⟩)
  go_ret2
  exact ⟨rfl, hw2.trans (hb3.mono hw2.size)⟩

theorem pts4 (w : World) (o p q r : Obj) (ax ay bx by' cx cy dx dy : Int) (T : TypeId) :
    PtsAt (((((w.alloc o).alloc p).alloc q).alloc r).alloc (.cells #[.int .i64 ax, .int .i64 ay, .int .i64 bx, .int .i64 by', .int .i64 cx, .int .i64 cy, .int .i64 dx, .int .i64 dy] T)) (w.heap.size + 1 + 1 + 1 + 1) 0 [(ax, ay), (bx, by'), (cx, cy), (dx, dy)] := by
  intro j hj
  have hj : j < 4 := hj
  rw [World.cell?_alloc_at _ _ _ _ (by simp), World.cell?_alloc_at _ _ _ _ (by simp)]
  match j, hj with
  | 0, _ => exact ⟨rfl, rfl⟩
  | 1, _ => exact ⟨rfl, rfl⟩
  | 2, _ => exact ⟨rfl, rfl⟩
  | 3, _ => exact ⟨rfl, rfl⟩

theorem below5 (w : World) (o p q r s : Obj) : Below w.heap.size w (((((w.alloc o).alloc p).alloc q).alloc r).alloc s) := (below4 w o p q r).alloc (by simp; omega) _

set_option maxHeartbeats 1000000 in
theorem inCircle_far (ax ay bx by' cx cy dx dy : Int) (w : World) (hf : (farB ax ay || farB bx by' || farB cx cy || farB dx dy) = true) :
    Calls Try.prog 23 #[.agg #[.int .i64 ax, .int .i64 ay], .agg #[.int .i64 bx, .int .i64 by'], .agg #[.int .i64 cx, .int .i64 cy], .agg #[.int .i64 dx, .int .i64 dy]] w fun e w' =>
      e = .returned (.tuple #[.int .i64 0, .int .i64 1]) ∧ Below w.heap.size w w' := by
  go_enter Try.func23, Try.ntmps23
  go_wp2_with (go_at_call 36; refine (anyFar_any _ 0 4 [(ax, ay), (bx, by'), (cx, cy), (dx, dy)] _ (by simp) (by simp) (pts4 _ _ _ _ _ _ _ _ _ _ _ _ _ _)).mono ?_; rintro e w1 ⟨rfl, hb1⟩; rw [anyFar4, hf])
  go_ret2
  exact ⟨rfl, (below5 _ _ _ _ _ _).trans (hb1.mono (by simp; omega))⟩

set_option maxHeartbeats 1000000 in
theorem inCircle_near (ax ay bx by' cx cy dx dy : Int) (w : World) (a : Near ax ay) (b : Near bx by') (c : Near cx cy) (d : Near dx dy) :
    Calls Try.prog 23 #[.agg #[.int .i64 ax, .int .i64 ay], .agg #[.int .i64 bx, .int .i64 by'], .agg #[.int .i64 cx, .int .i64 cy], .agg #[.int .i64 dx, .int .i64 dy]] w fun e w' =>
      e = .returned (.tuple #[.int .i64 (sg (sideN ax ay bx by' cx cy) * sg (circN ax ay bx by' cx cy dx dy)), .int .i64 0]) ∧ Below w.heap.size w w' := by
  have hf : (farB ax ay || farB bx by' || farB cx cy || farB dx dy) = false := by rw [near_farB a, near_farB b, near_farB c, near_farB d]; rfl
  have hn : AllNear [(ax, ay), (bx, by'), (cx, cy), (dx, dy)] := by
    intro j hj
    have hj : j < 4 := hj
    match j, hj with
    | 0, _ => exact a
    | 1, _ => exact b
    | 2, _ => exact c
    | 3, _ => exact d
  go_enter Try.func23, Try.ntmps23
  go_wp2_with (go_at_call 36; refine (anyFar_any _ 0 4 [(ax, ay), (bx, by'), (cx, cy), (dx, dy)] _ (by simp) (by simp) (pts4 _ _ _ _ _ _ _ _ _ _ _ _ _ _)).mono ?_; rintro e w1 ⟨rfl, hb1⟩; rw [anyFar4, hf])
  have hp1 := (pts4 w (.cells #[.int .i64 ax, .int .i64 ay] 23) (.cells #[.int .i64 bx, .int .i64 by'] 23) (.cells #[.int .i64 cx, .int .i64 cy] 23) (.cells #[.int .i64 dx, .int .i64 dy] 23) ax ay bx by' cx cy dx dy 23).below hb1 (by simp)
  have hw1 : Below w.heap.size w w1 := (below5 _ _ _ _ _ _).trans (hb1.mono (by simp; omega))
  have hz1 : w.heap.size + 1 + 1 + 1 + 1 < w1.heap.size := by have := hb1.size; simp at this; omega
  clear hb1 hf
  refine (askOf_any _ 4 4 w1).mono ?_
  rintro e w2 ⟨B, hB1, hB2, hcB, rfl, hb2⟩
  have hp2 := hp1.below hb2 hz1
  have hw2 : Below w.heap.size w w2 := hw1.trans (hb2.mono hw1.size)
  have hz2 : w.heap.size + 1 + 1 + 1 + 1 < w2.heap.size := Nat.lt_of_lt_of_le hz1 hb2.size
  clear hp1 hw1 hz1 hb2 hB1
  go_wp2_with (go_at_call 48; refine (ask2_any B _ 0 4 [(ax, ay), (bx, by'), (cx, cy), (dx, dy)] 0 1 2 3 w2 (by simp) (by simp) (by simp) (by simp) (by simp) hz2 hB2 hcB hp2 hn).mono ?_; rintro e w3 ⟨rfl, hb3⟩)
  go_ret2
  exact ⟨rfl, hw2.trans (hb3.mono hw2.size)⟩

set_option maxHeartbeats 400000 in
theorem korient_any (ax ay bx by' cx cy : Int) (w : World) (a : Near ax ay) (b : Near bx by') (c : Near cx cy) :
    Calls Try.prog 9 #[.agg #[.int .i64 ax, .int .i64 ay], .agg #[.int .i64 bx, .int .i64 by'], .agg #[.int .i64 cx, .int .i64 cy]] w fun e w' =>
      e = .returned (.int .i64 (sg (sideN ax ay bx by' cx cy))) ∧ Below w.heap.size w w' := by
  go_enter Try.func9, Try.ntmps9
  go_wp2_with (go_at_call 22; refine (orient_near _ _ _ _ _ _ _ a b c).mono ?_; rintro e w1 ⟨rfl, hb1⟩)
  go_ret
  exact ⟨rfl, (below3 _ _ _ _).trans (hb1.mono (by simp; omega))⟩

set_option maxHeartbeats 400000 in
theorem kcircle_any (ax ay bx by' cx cy dx dy : Int) (w : World) (a : Near ax ay) (b : Near bx by') (c : Near cx cy) (d : Near dx dy) :
    Calls Try.prog 10 #[.agg #[.int .i64 ax, .int .i64 ay], .agg #[.int .i64 bx, .int .i64 by'], .agg #[.int .i64 cx, .int .i64 cy], .agg #[.int .i64 dx, .int .i64 dy]] w fun e w' =>
      e = .returned (.int .i64 (sg (sideN ax ay bx by' cx cy) * sg (circN ax ay bx by' cx cy dx dy))) ∧ Below w.heap.size w w' := by
  go_enter Try.func10, Try.ntmps10
  go_wp2_with (go_at_call 23; refine (inCircle_near _ _ _ _ _ _ _ _ _ a b c d).mono ?_; rintro e w1 ⟨rfl, hb1⟩)
  go_ret
  exact ⟨rfl, (below4 _ _ _ _ _).trans (hb1.mono (by simp; omega))⟩

end Go.Proofs.Ytgpapegpdfonpaa
