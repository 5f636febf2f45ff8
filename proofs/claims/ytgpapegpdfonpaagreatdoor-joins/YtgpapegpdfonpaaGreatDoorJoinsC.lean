/-
  The statement's steps, by the whole book: World.step, World.plays up to kind 4, Joins.
-/
import Derived.Test.YtgpapegpdfonpaaGreatDoorJoinsB
import Derived.Test.YtgpapegpdfonpaaGreatDoorLawG
namespace Go.Proofs.YtgpapegpdfonpaaGreatDoor
set_option linter.unusedVariables false
set_option linter.unusedSimpArgs false
open Go.RowKit
attribute [local go_sem ↓] Go.wp_at_zero Go.wp_at_succ

theorem LowAt.for {WB N : Nat} {v0 : Value} {tag : Nat → Nat} {w : World} {a : Option Addr} {l : List Pt} (h : LowAt WB w a l) (hB : Bks w WB v0 tag N) : ForAt tag w a l := by
  rcases h with h | ⟨b, off, e, hlt, hp⟩
  · exact .inl h
  · exact .inr ⟨b, off, e, Nat.lt_trans hlt hB.lt, hB.low b hlt, hp⟩

theorem wpoints_any (WB N : Nat) (v0 : Value) (tag : Nat → Nat) (kd n wh ax ay bx by' cx cy dx dy : Int) (la : Option Addr) (l : List Pt) (lc : Nat) (ta : Option Addr) (tn tc : Nat) (s : ByteArray) (w : World) (h : Bks w WB v0 tag N) (hN : N ≤ 925904528800) (hr : ForAt tag w la l) (hl : l.length ≤ 8796093021952) (h1 : 1 ≤ kd) (h3 : kd ≤ 3) :
    Calls Tryz.prog 19 #[.pointer (some ⟨WB, 0, none⟩), opVal kd n wh ax ay bx by' cx cy dx dy la l.length lc ta tn tc s] w fun e w' => e = .returned (.bool true) ∧ StepOk WB v0 N tag w w' := by
  have hk : kd = 1 ∨ kd = 2 ∨ kd = 3 := by omega
  rcases hk with rfl | rfl | rfl
  · refine (points_orient WB n wh ax ay bx by' cx cy dx dy la l.length lc ta tn tc s w).mono ?_
    rintro e w' ⟨rfl, hb⟩
    exact ⟨rfl, StepOk.of_below h hb⟩
  · refine (points_circle WB n wh ax ay bx by' cx cy dx dy la l.length lc ta tn tc s w).mono ?_
    rintro e w' ⟨rfl, hb⟩
    exact ⟨rfl, StepOk.of_below h hb⟩
  · exact bpoints_hull WB N v0 tag n wh ax ay bx by' cx cy dx dy la l lc ta tn tc s w h hN hr hl

set_option maxHeartbeats 2000000 in
set_option maxRecDepth 100000 in
theorem wstep_none (WB N : Nat) (ma : Option Addr) (mn mc : Nat) (tag : Nat → Nat) (kd n wh ax ay bx by' cx cy dx dy : Int) (la : Option Addr) (ln : Nat) (lc : Nat) (ta : Option Addr) (tn tc : Nat) (s : ByteArray) (w : World) (h : Bks w WB (.slice ma mn mc) tag N) (h1 : kd < 1) :
    Calls Tryz.prog 10 #[.pointer (some ⟨WB, 0, none⟩), opVal kd n wh ax ay bx by' cx cy dx dy la ln lc ta tn tc s] w fun e w' => e = .returned (.bool true) ∧ Below w.heap.size w w' := by
  have hWB := h.lt
  have c0 := h.cell0
  clear h
  have d1 : decide (1 ≤ kd) = false := decide_eq_false (by omega)
  have x4 : (kd == 4) = false := beq_eq_false_iff_ne.2 (by omega)
  have x5 : (kd == 5) = false := beq_eq_false_iff_ne.2 (by omega)
  have x12 : (kd == 12) = false := beq_eq_false_iff_ne.2 (by omega)
  have x13 : (kd == 13) = false := beq_eq_false_iff_ne.2 (by omega)
  have y1 : ¬ (1 ≤ kd) := by omega
  have y4 : ¬ kd = 4 := by omega
  have y5 : ¬ kd = 5 := by omega
  have y12 : ¬ kd = 12 := by omega
  have y13 : ¬ kd = 13 := by omega
  by_cases h0 : mn = 0
  · subst h0
    go_enter Tryz.func10, Tryz.ntmps10
    go_wp2
    go_ret
    exact ⟨rfl, below1 _ _⟩
  · have z0 : ((mn : Int) == 0) = false := beq_eq_false_iff_ne.2 (by omega)
    have z1 : ¬ ((mn : Int) = 0) := by omega
    go_enter Tryz.func10, Tryz.ntmps10
    go_wp2
    go_ret
    exact ⟨rfl, below1 _ _⟩

set_option maxHeartbeats 2000000 in
set_option maxRecDepth 100000 in
theorem wstep_points (WB N : Nat) (v0 : Value) (tag : Nat → Nat) (kd n wh ax ay bx by' cx cy dx dy : Int) (la : Option Addr) (l : List Pt) (lc : Nat) (ta : Option Addr) (tn tc : Nat) (s : ByteArray) (w : World) (h : Bks w WB v0 tag N) (hN : N ≤ 925904528800) (hr : ForAt tag w la l) (hl : l.length ≤ 8796093021952) (h1 : 1 ≤ kd) (h3 : kd ≤ 3) :
    Calls Tryz.prog 10 #[.pointer (some ⟨WB, 0, none⟩), opVal kd n wh ax ay bx by' cx cy dx dy la l.length lc ta tn tc s] w fun e w' => e = .returned (.bool true) ∧ StepOk WB v0 N tag w w' := by
  have FP := fun o => wpoints_any WB N v0 tag kd n wh ax ay bx by' cx cy dx dy la l lc ta tn tc s (w.alloc o) (h.below (below1 w o)) hN (hr.below (below1 w o)) hl h1 h3
  clear h hr hl hN
  go_enter Tryz.func10, Tryz.ntmps10
  go_wp2_with (go_at_call 19; refine (FP _).mono ?_; rintro e w1 ⟨rfl, hb1⟩)
  go_ret
  exact ⟨rfl, hb1.pre⟩

set_option maxHeartbeats 2000000 in
set_option maxRecDepth 100000 in
theorem wstep_joins (WB N : Nat) (v0 : Value) (tag : Nat → Nat) (n wh ax ay bx by' cx cy dx dy : Int) (la : Option Addr) (l : List Pt) (lc : Nat) (ta : Option Addr) (tn tc : Nat) (s : ByteArray) (w : World) (h : Bks w WB v0 tag N) (hN : N ≤ 925904528800) (hr : ForAt tag w la l) (hl : l.length ≤ 8796093021952) :
    Calls Tryz.prog 10 #[.pointer (some ⟨WB, 0, none⟩), opVal 4 n wh ax ay bx by' cx cy dx dy la l.length lc ta tn tc s] w fun e w' => e = .returned (.bool true) ∧ StepOk WB v0 N tag w w' := by
  have FP := fun o => bjoins_any WB N v0 tag n wh ax ay bx by' cx cy dx dy la l lc ta tn tc s (w.alloc o) (h.below (below1 w o)) hN (hr.below (below1 w o)) hl
  clear h hr hl hN
  go_enter Tryz.func10, Tryz.ntmps10
  go_wp2_with (go_at_call 20; refine (FP _).mono ?_; rintro e w1 ⟨rfl, hb1⟩)
  go_ret
  exact ⟨rfl, hb1.pre⟩

theorem wstep4 (WB N : Nat) (ma : Option Addr) (mn mc : Nat) (tag : Nat → Nat) (kd n wh ax ay bx by' cx cy dx dy : Int) (la : Option Addr) (l : List Pt) (lc : Nat) (ta : Option Addr) (tn tc : Nat) (s : ByteArray) (w : World) (h : Bks w WB (.slice ma mn mc) tag N) (hN : N ≤ 925904528800) (hr : ForAt tag w la l) (hl : l.length ≤ 8796093021952) (h3 : kd ≤ 4) :
    Calls Tryz.prog 10 #[.pointer (some ⟨WB, 0, none⟩), opVal kd n wh ax ay bx by' cx cy dx dy la l.length lc ta tn tc s] w fun e w' => e = .returned (.bool true) ∧ StepOk WB (.slice ma mn mc) N tag w w' := by
  by_cases h1 : 1 ≤ kd
  · by_cases h4 : kd = 4
    · subst h4
      exact wstep_joins WB N _ tag n wh ax ay bx by' cx cy dx dy la l lc ta tn tc s w h hN hr hl
    · exact wstep_points WB N _ tag kd n wh ax ay bx by' cx cy dx dy la l lc ta tn tc s w h hN hr hl h1 (by omega)
  · refine (wstep_none WB N ma mn mc tag kd n wh ax ay bx by' cx cy dx dy la l.length lc ta tn tc s w h (by omega)).mono ?_
    rintro e w' ⟨rfl, hb⟩
    exact ⟨rfl, StepOk.of_below h hb⟩

theorem bkeptB_any (WB N : Nat) (v0 : Value) (tag : Nat → Nat) (w : World) (h : Bks w WB v0 tag N) (hN : N ≤ 925904529000) : Calls Tryz.prog 18 #[.pointer (some ⟨WB, 1, none⟩)] w fun e w' => e = .returned (.bool true) ∧ Below w.heap.size w w' := by
  obtain ⟨sh, nk, hB, hlen, hk⟩ := h
  exact bkept_any WB nk v0 tag sh w hB (fun j hj => (hlen j hj).1) fun j hj => by have := (hlen j hj).2; omega

set_option maxHeartbeats 4000000 in
set_option maxRecDepth 100000 in
theorem plays4 (WB : Nat) (tag0 : Nat → Nat) (a : Option Addr) (cap : Nat) (os : List OpD) (w : World) (h : Bks w WB (.slice none 0 0) tag0 1) (hs : ScriptAt WB w a os) (hl : os.length ≤ 925904528626) :
    Calls Tryz.prog 9 #[.pointer (some ⟨WB, 0, none⟩), .slice a os.length cap, .int .i64 4] w fun e w' => e = .returned (.bool true) ∧ Below WB w w' := by
  have HS : Hid (ScriptAt WB w a os) := hs
  have HL : Hid (os.length ≤ 925904528626) := hl
  have l20 : (os.length : Int) ≤ 925904528626 := by omega
  clear hs hl
  go_enter Tryz.func9, Tryz.ntmps9
  go_wp2
  go_loopw [7] (fun i wr => ∃ k : Nat, k ≤ os.length ∧ i = .int .i64 k ∧ (∃ tag, Bks wr WB (.slice none 0 0) tag (k + 1)) ∧ Below WB w wr) (fun i _ => os.length - (intOf i).toNat)
  case atStart => exact ⟨0, by omega, rfl, ⟨tag0, h⟩, Below.refl _ _⟩
  case round =>
    clear h
    obtain ⟨k, hk, rfl, ⟨tag, hB⟩, hb⟩ := hrel
    by_cases hlt : k < os.length
    · obtain ⟨b, off, rfl, hbW, hc, hlow, hll⟩ := (HS.out.below hb) k hlt
      generalize os[k] = o at *
      obtain ⟨kd, n, wh, ax, ay, bx, by', cx, cy, dx, dy, la, l, lc, ta, tn, tc, s⟩ := o
      have c0 := hc 0 (by omega)
      have c1 := hc 1 (by omega)
      have c2 := hc 2 (by omega)
      have c3 := hc 3 (by omega)
      have c4 := hc 4 (by omega)
      have c5 := hc 5 (by omega)
      have c6 := hc 6 (by omega)
      have c7 := hc 7 (by omega)
      have c8 := hc 8 (by omega)
      have c9 := hc 9 (by omega)
      have c10 := hc 10 (by omega)
      have c11 := hc 11 (by omega)
      have c12 := hc 12 (by omega)
      have c13 := hc 13 (by omega)
      simp only [OpD.cells, List.getElem?_cons_zero, List.getElem?_cons_succ, Nat.add_zero] at c0 c1 c2 c3 c4 c5 c6 c7 c8 c9 c10 c11 c12 c13
      simp only at hlow hll
      have x0 : (0 : Int) ≤ (k : Int) := by omega
      have x1 : (k : Int) < (os.length : Int) := by omega
      have x4 : IntKind.i64.wrap ((k : Int) + 1) = (k : Int) + 1 := wrap_id (by omega) (by omega)
      clear hc
      by_cases h3 : kd ≤ 4
      · have hN : k + 1 ≤ 925904528800 := by have := HL.out; omega
        have hN1 : k + 1 + 1 ≤ 925904529000 := by have := HL.out; omega
        have FS := wstep4 WB (k + 1) none 0 0 tag kd n wh ax ay bx by' cx cy dx dy la l lc ta tn tc s wr hB hN (hlow.for hB) hll h3
        have FK := fun W tg (hW : Bks W WB (.slice none 0 0) tg (k + 1 + 1)) => bkeptB_any WB (k + 1 + 1) (.slice none 0 0) tg W hW hN1
        have y3 : ¬ (4 < kd) := by omega
        have HBL : Hid (Below WB w wr ∧ Bks wr WB (.slice none 0 0) tag (k + 1)) := ⟨hb, hB⟩
        clear hB hlow hll hN hN1 hb
        go_wp2_with (first
          | (go_at_call 10; refine FS.mono ?_; rintro e w1 ⟨rfl, hS1⟩
             have hb1 := hS1.low HBL.out.2
             obtain ⟨tag1, hB1, _, _⟩ := hS1)
          | (go_at_call 18; refine (FK _ tag1 hB1).mono ?_; rintro e w2 ⟨rfl, hb2⟩))
        have HR : Hid ((∃ tag, Bks w2 WB (.slice none 0 0) tag (k + 1 + 1)) ∧ Below WB w w2) := ⟨⟨tag1, hB1.below hb2⟩, (HBL.out.1.trans hb1).trans (hb2.mono (Nat.le_of_lt hB1.lt))⟩
        clear hB1 hb1 hb2 FS FK
        go_roundw
        case rel => exact ⟨k + 1, by omega, by go_num, HR.out.1, HR.out.2⟩
        case measure => simp [intOf]; omega
      · have y3 : 4 < kd := by omega
        have HBL : Hid (Bks wr WB (.slice none 0 0) tag (k + 1 + 1) ∧ Below WB w wr) := ⟨hB.more (by omega), hb⟩
        clear hB hlow hll hb
        go_wp2
        go_roundw
        case rel => exact ⟨k + 1, by omega, by go_num, ⟨tag, HBL.out.1⟩, HBL.out.2⟩
        case measure => simp [intOf]; omega
    · have HBL : Hid (Below WB w wr) := hb
      clear hB hb
      go_wp2
      go_ret
      exact ⟨rfl, HBL.out⟩

/-! ### the beginning -/
def sh0 : Nat → Sh := fun _ => ⟨.slice none 0 0, .slice none 0 0, [], []⟩
theorem bk_new (w : World) : Bks (w.alloc (.cells #[.slice none 0 0, .slice none 0 0, .slice none 0 0, .slice none 0 0, .slice none 0 0, .slice none 0 0, .slice none 0 0, .int .i64 0] 32)) w.heap.size (.slice none 0 0) (fun k => if k = w.heap.size then 4 else 0) 0 := by
  refine ⟨sh0, 0, ⟨heap_alloc_new _ _, if_pos rfl, fun k hk => ?_, fun k hk => if_neg (by omega), fun j _ => ⟨World.ownsRow_nil _ _ _ _, World.ownsRow_nil _ _ _ _, (fun g hg => by cases hg), (fun g hg => by cases hg), (fun e he => by cases he)⟩⟩, fun j _ => ⟨rfl, Nat.le_refl _⟩, Nat.le_refl _⟩
  by_cases e : k = w.heap.size
  · subst e; simp
  · exact absurd (if_neg e) hk

theorem four_at (W0 : World) : PtsAt (W0.alloc (.cells #[.int .i64 0, .int .i64 0, .int .i64 2, .int .i64 0, .int .i64 4, .int .i64 0, .int .i64 2, .int .i64 3] 37)) W0.heap.size 0 [(0, 0), (2, 0), (4, 0), (2, 3)] := by
  intro j hj
  have e := heap_alloc_new W0 (.cells #[.int .i64 0, .int .i64 0, .int .i64 2, .int .i64 0, .int .i64 4, .int .i64 0, .int .i64 2, .int .i64 3] 37)
  match j, hj with
  | 0, _ => exact ⟨by simp only [World.cell?, e]; rfl, by simp only [World.cell?, e]; rfl⟩
  | 1, _ => exact ⟨by simp only [World.cell?, e]; rfl, by simp only [World.cell?, e]; rfl⟩
  | 2, _ => exact ⟨by simp only [World.cell?, e]; rfl, by simp only [World.cell?, e]; rfl⟩
  | 3, _ => exact ⟨by simp only [World.cell?, e]; rfl, by simp only [World.cell?, e]; rfl⟩

set_option maxHeartbeats 2000000 in
set_option maxRecDepth 100000 in
theorem joins_walk (a : Option Addr) (cap : Nat) (os : List OpD) (w : World) (hs : ScriptAt w.heap.size w a os) (hl : os.length ≤ 925904528626) :
    Calls Tryz.prog 4 #[.slice a os.length cap] w fun e w' => e = .returned (.bool true) ∧ Below w.heap.size w w' := by
  have HS : Hid (ScriptAt w.heap.size w a os) := hs
  have HL : Hid (os.length ≤ 925904528626) := hl
  clear hs hl
  go_enter Tryz.func4, Tryz.ntmps4
  go_upto_region 2 with fail
  have hB0 := bk_new w
  have hb0 := below1 w (.cells #[.slice none 0 0, .slice none 0 0, .slice none 0 0, .slice none 0 0, .slice none 0 0, .slice none 0 0, .slice none 0 0, .int .i64 0] 32)
  have hs0 : (w.alloc (.cells #[.slice none 0 0, .slice none 0 0, .slice none 0 0, .slice none 0 0, .slice none 0 0, .slice none 0 0, .slice none 0 0, .int .i64 0] 32)).heap.size = w.heap.size + 1 := by simp
  generalize w.alloc (.cells #[.slice none 0 0, .slice none 0 0, .slice none 0 0, .slice none 0 0, .slice none 0 0, .slice none 0 0, .slice none 0 0, .int .i64 0] 32) = W0 at *
  have hFor : ForAt (fun k => if k = w.heap.size then 4 else 0) (W0.alloc (.cells #[.int .i64 0, .int .i64 0, .int .i64 2, .int .i64 0, .int .i64 4, .int .i64 0, .int .i64 2, .int .i64 3] 37)) (some ⟨W0.heap.size, 0, none⟩) [(0, 0), (2, 0), (4, 0), (2, 3)] := by
    exact .inr ⟨W0.heap.size, 0, rfl, by simp, if_neg (by omega), four_at W0⟩
  have hb00 := below1 W0 (.cells #[.int .i64 0, .int .i64 0, .int .i64 2, .int .i64 0, .int .i64 4, .int .i64 0, .int .i64 2, .int .i64 3] 37)
  have FS := wstep4 w.heap.size 0 none 0 0 (fun k => if k = w.heap.size then 4 else 0) 4 0 0 0 0 0 0 0 0 0 0 (some ⟨W0.heap.size, 0, none⟩) [(0, 0), (2, 0), (4, 0), (2, 3)] 4 none 0 0 .empty _ (hB0.below hb00) (by omega) hFor (by simp) (by omega)
  have HB00 : Hid (Bks (W0.alloc (.cells #[.int .i64 0, .int .i64 0, .int .i64 2, .int .i64 0, .int .i64 4, .int .i64 0, .int .i64 2, .int .i64 3] 37)) w.heap.size (.slice none 0 0) (fun k => if k = w.heap.size then 4 else 0) 0 ∧ Below w.heap.size w (W0.alloc (.cells #[.int .i64 0, .int .i64 0, .int .i64 2, .int .i64 0, .int .i64 4, .int .i64 0, .int .i64 2, .int .i64 3] 37))) := ⟨hB0.below hb00, hb0.trans (hb00.mono hb0.size)⟩
  clear hFor hb00 hB0 hb0 hs0
  go_upto_region 3 with (go_at_call 10; refine FS.mono ?_; rintro e w1 ⟨rfl, hS1⟩)
  have hb1 := hS1.low HB00.out.1
  obtain ⟨tag1, hB1, _, _⟩ := hS1
  have hb01 := HB00.out.2.trans hb1
  have FP := plays4 w.heap.size tag1 a cap os w1 hB1 (HS.out.below hb01) HL.out
  clear hB1 hb1 FS HB00
  go_wp2_with (go_at_call 9; refine FP.mono ?_; rintro e w2 ⟨rfl, hb2⟩)
  go_ret
  exact ⟨rfl, hb01.trans hb2⟩

end Go.Proofs.YtgpapegpdfonpaaGreatDoor
