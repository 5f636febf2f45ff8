/-
  The statement's steps: World.step, World.plays, and the statement itself.
-/
import Derived.Test.YtgpapegpdfonpaaGreatDoorLawF
namespace Go.Proofs.YtgpapegpdfonpaaGreatDoor
set_option linter.unusedVariables false
set_option linter.unusedSimpArgs false
open Go.RowKit
attribute [local go_sem ↓] Go.wp_at_zero Go.wp_at_succ

theorem low_le {WB : Nat} {w w' : World} (h : Below w.heap.size w w') (hW : WB < w.heap.size) : Below WB w w' := h.mono (Nat.le_of_lt hW)

theorem points_any (WB N : Nat) (kd n wh ax ay bx by' cx cy dx dy : Int) (la : Option Addr) (l : List Pt) (lc : Nat) (ta : Option Addr) (tn tc : Nat) (s : ByteArray) (w : World) (h : Books w WB N) (hN : N ≤ 925904528800) (hr : LowAt WB w la l) (hl : l.length ≤ 8796093021952) (h1 : 1 ≤ kd) (h3 : kd ≤ 3) :
    Calls Tryz.prog 19 #[.pointer (some ⟨WB, 0, none⟩), opVal kd n wh ax ay bx by' cx cy dx dy la l.length lc ta tn tc s] w fun e w' => e = .returned (.bool true) ∧ Books w' WB (N + 1) ∧ Below WB w w' := by
  have hk : kd = 1 ∨ kd = 2 ∨ kd = 3 := by omega
  rcases hk with rfl | rfl | rfl
  · refine (points_orient WB n wh ax ay bx by' cx cy dx dy la l.length lc ta tn tc s w).mono ?_
    rintro e w' ⟨rfl, hb⟩
    exact ⟨rfl, (h.below hb).more (by omega), low_le hb h.lt⟩
  · refine (points_circle WB n wh ax ay bx by' cx cy dx dy la l.length lc ta tn tc s w).mono ?_
    rintro e w' ⟨rfl, hb⟩
    exact ⟨rfl, (h.below hb).more (by omega), low_le hb h.lt⟩
  · exact points_hull WB N n wh ax ay bx by' cx cy dx dy la l lc ta tn tc s w h hN hr hl

set_option maxHeartbeats 2000000 in
set_option maxRecDepth 100000 in
theorem step_none (WB N : Nat) (kd n wh ax ay bx by' cx cy dx dy : Int) (la : Option Addr) (ln : Nat) (lc : Nat) (ta : Option Addr) (tn tc : Nat) (s : ByteArray) (w : World) (h : Books w WB N) (h1 : kd < 1) :
    Calls Tryz.prog 10 #[.pointer (some ⟨WB, 0, none⟩), opVal kd n wh ax ay bx by' cx cy dx dy la ln lc ta tn tc s] w fun e w' => e = .returned (.bool true) ∧ Below w.heap.size w w' := by
  have hWB := h.lt
  have c0 : w.cell? ⟨WB, 0, none⟩ = some (.slice none 0 0) := by
    obtain ⟨vI, vM, ls, ms, nk, hB, _⟩ := h
    exact hB.cells.1
  clear h
  have d1 : decide (1 ≤ kd) = false := decide_eq_false (by omega)
  have x4 : (kd == 4) = false := beq_eq_false_iff_ne.2 (by omega)
  have x5 : (kd == 5) = false := beq_eq_false_iff_ne.2 (by omega)
  have x12 : (kd == 12) = false := beq_eq_false_iff_ne.2 (by omega)
  have x13 : (kd == 13) = false := beq_eq_false_iff_ne.2 (by omega)
  have y1 : ¬ (1 ≤ kd) := by omega
  have y4 : ¬ kd = 4 := by omega
  have y5 : ¬ kd = 5 := by omega
  have y12 : ¬ kd = 12 := by omega
  have y13 : ¬ kd = 13 := by omega
  go_enter Tryz.func10, Tryz.ntmps10
  go_wp2
  go_ret
  exact ⟨rfl, below1 _ _⟩

set_option maxHeartbeats 2000000 in
set_option maxRecDepth 100000 in
theorem step_points (WB N : Nat) (kd n wh ax ay bx by' cx cy dx dy : Int) (la : Option Addr) (l : List Pt) (lc : Nat) (ta : Option Addr) (tn tc : Nat) (s : ByteArray) (w : World) (h : Books w WB N) (hN : N ≤ 925904528800) (hr : LowAt WB w la l) (hl : l.length ≤ 8796093021952) (h1 : 1 ≤ kd) (h3 : kd ≤ 3) :
    Calls Tryz.prog 10 #[.pointer (some ⟨WB, 0, none⟩), opVal kd n wh ax ay bx by' cx cy dx dy la l.length lc ta tn tc s] w fun e w' => e = .returned (.bool true) ∧ Books w' WB (N + 1) ∧ Below WB w w' := by
  have hWB := h.lt
  have hB0 := fun o => h.below (below1 w o)
  have hr0 := fun o => hr.below (low_le (below1 w o) hWB)
  have FP := fun o => points_any WB N kd n wh ax ay bx by' cx cy dx dy la l lc ta tn tc s (w.alloc o) (hB0 o) hN (hr0 o) hl h1 h3
  have hlow := fun o => low_le (below1 w o) hWB
  clear hB0 hr0 h hr hl hN
  go_enter Tryz.func10, Tryz.ntmps10
  go_wp2_with (go_at_call 19; refine (FP _).mono ?_; rintro e w1 ⟨rfl, hb1, hb2⟩)
  go_ret
  exact ⟨rfl, hb1, (hlow _).trans hb2⟩

theorem step_any (WB N : Nat) (kd n wh ax ay bx by' cx cy dx dy : Int) (la : Option Addr) (l : List Pt) (lc : Nat) (ta : Option Addr) (tn tc : Nat) (s : ByteArray) (w : World) (h : Books w WB N) (hN : N ≤ 925904528800) (hr : LowAt WB w la l) (hl : l.length ≤ 8796093021952) (h3 : kd ≤ 3) :
    Calls Tryz.prog 10 #[.pointer (some ⟨WB, 0, none⟩), opVal kd n wh ax ay bx by' cx cy dx dy la l.length lc ta tn tc s] w fun e w' => e = .returned (.bool true) ∧ Books w' WB (N + 1) ∧ Below WB w w' := by
  by_cases h1 : 1 ≤ kd
  · exact step_points WB N kd n wh ax ay bx by' cx cy dx dy la l lc ta tn tc s w h hN hr hl h1 h3
  · refine (step_none WB N kd n wh ax ay bx by' cx cy dx dy la l.length lc ta tn tc s w h (by omega)).mono ?_
    rintro e w' ⟨rfl, hb⟩
    exact ⟨rfl, (h.below hb).more (by omega), low_le hb h.lt⟩

theorem keptB_any (WB N : Nat) (w : World) (h : Books w WB N) (hN : N ≤ 925904528800) : Calls Tryz.prog 18 #[.pointer (some ⟨WB, 1, none⟩)] w fun e w' => e = .returned (.bool true) ∧ Books w' WB N ∧ Below WB w w' := by
  have hWB := h.lt
  obtain ⟨vI, vM, ls, ms, nk, hB, hlen, h4, hk⟩ := h
  refine (kept_any WB vI vM ls ms nk w hB hlen (by omega)).mono ?_
  rintro e w' ⟨rfl, hb⟩
  exact ⟨rfl, ⟨_, _, _, _, _, hB.below hb, hlen, h4, hk⟩, low_le hb hWB⟩

/-- a step, as data -/
structure OpD where
  (kd n wh ax ay bx by' cx cy dx dy : Int) (la : Option Addr) (l : List Pt) (lc : Nat) (ta : Option Addr) (tn tc : Nat) (s : ByteArray)
def OpD.cells (o : OpD) : List Value := [.int .i64 o.kd, .int .i64 o.n, .int .i64 o.wh, .int .i64 o.ax, .int .i64 o.ay, .int .i64 o.bx, .int .i64 o.by', .int .i64 o.cx, .int .i64 o.cy, .int .i64 o.dx, .int .i64 o.dy, .slice o.la o.l.length o.lc, .slice o.ta o.tn o.tc, .string o.s]
/-- a script, below the book -/
def ScriptAt (WB : Nat) (w : World) (a : Option Addr) (os : List OpD) : Prop :=
  ∀ k, (h : k < os.length) → ∃ b off, a = some ⟨b, off, none⟩ ∧ b < WB ∧ (∀ j, j < 14 → w.cell? ⟨b, off + k * 14 + j, none⟩ = os[k].cells[j]?) ∧ LowAt WB w os[k].la os[k].l ∧ os[k].l.length ≤ 8796093021952
theorem ScriptAt.below {WB : Nat} {w w' : World} {a : Option Addr} {os : List OpD} (h : ScriptAt WB w a os) (hb : Below WB w w') : ScriptAt WB w' a os := fun k hk => by
  obtain ⟨b, off, ha, hlt, hc, hl, hn⟩ := h k hk
  exact ⟨b, off, ha, hlt, fun j hj => (hb.cell (p := ⟨b, off + k * 14 + j, none⟩) hlt).trans (hc j hj), hl.below hb, hn⟩

set_option maxHeartbeats 4000000 in
set_option maxRecDepth 100000 in
theorem plays_any (WB : Nat) (a : Option Addr) (cap : Nat) (os : List OpD) (w : World) (h : Books w WB 0) (hs : ScriptAt WB w a os) (hl : os.length ≤ 925904528626) :
    Calls Tryz.prog 9 #[.pointer (some ⟨WB, 0, none⟩), .slice a os.length cap, .int .i64 3] w fun e w' => e = .returned (.bool true) ∧ Below WB w w' := by
  have HS : Hid (ScriptAt WB w a os) := hs
  have HL : Hid (os.length ≤ 925904528626) := hl
  have l20 : (os.length : Int) ≤ 925904528626 := by omega
  clear hs hl
  go_enter Tryz.func9, Tryz.ntmps9
  go_wp2
  go_loopw [7] (fun i wr => ∃ k : Nat, k ≤ os.length ∧ i = .int .i64 k ∧ Books wr WB k ∧ Below WB w wr) (fun i _ => os.length - (intOf i).toNat)
  case atStart => exact ⟨0, by omega, rfl, h, Below.refl _ _⟩
  case round =>
    clear h
    obtain ⟨k, hk, rfl, hB, hb⟩ := hrel
    by_cases hlt : k < os.length
    · obtain ⟨b, off, rfl, hbW, hc, hlow, hll⟩ := (HS.out.below hb) k hlt
      generalize os[k] = o at *
      obtain ⟨kd, n, wh, ax, ay, bx, by', cx, cy, dx, dy, la, l, lc, ta, tn, tc, s⟩ := o
      have c0 := hc 0 (by omega)
      have c1 := hc 1 (by omega)
      have c2 := hc 2 (by omega)
      have c3 := hc 3 (by omega)
      have c4 := hc 4 (by omega)
      have c5 := hc 5 (by omega)
      have c6 := hc 6 (by omega)
      have c7 := hc 7 (by omega)
      have c8 := hc 8 (by omega)
      have c9 := hc 9 (by omega)
      have c10 := hc 10 (by omega)
      have c11 := hc 11 (by omega)
      have c12 := hc 12 (by omega)
      have c13 := hc 13 (by omega)
      simp only [OpD.cells, List.getElem?_cons_zero, List.getElem?_cons_succ, Nat.add_zero] at c0 c1 c2 c3 c4 c5 c6 c7 c8 c9 c10 c11 c12 c13
      simp only at hlow hll
      have x0 : (0 : Int) ≤ (k : Int) := by omega
      have x1 : (k : Int) < (os.length : Int) := by omega
      have x4 : IntKind.i64.wrap ((k : Int) + 1) = (k : Int) + 1 := wrap_id (by omega) (by omega)
      clear hc
      by_cases h3 : kd ≤ 3
      · have hN : k ≤ 925904528800 := by have := HL.out; omega
        have hN1 : k + 1 ≤ 925904528800 := by have := HL.out; omega
        have FS := step_any WB k kd n wh ax ay bx by' cx cy dx dy la l lc ta tn tc s wr hB hN hlow hll h3
        have FK := fun W (hW : Books W WB (k + 1)) => keptB_any WB (k + 1) W hW hN1
        have y3 : ¬ (3 < kd) := by omega
        have HBL : Hid (Below WB w wr) := hb
        clear hB hlow hll hN hN1 hb
        go_wp2_with (first
          | (go_at_call 10; refine FS.mono ?_; rintro e w1 ⟨rfl, hB1, hb1⟩)
          | (go_at_call 18; refine (FK _ hB1).mono ?_; rintro e w2 ⟨rfl, hB2, hb2⟩))
        go_roundw
        case rel => exact ⟨k + 1, by omega, by go_num, hB2, (HBL.out.trans hb1).trans hb2⟩
        case measure => simp [intOf]; omega
      · have y3 : 3 < kd := by omega
        have HBL : Hid (Books wr WB (k + 1) ∧ Below WB w wr) := ⟨hB.more (by omega), hb⟩
        clear hB hlow hll hb
        go_wp2
        go_roundw
        case rel => exact ⟨k + 1, by omega, by go_num, HBL.out.1, HBL.out.2⟩
        case measure => simp [intOf]; omega
    · have HBL : Hid (Below WB w wr) := hb
      clear hB hb
      go_wp2
      go_ret
      exact ⟨rfl, HBL.out⟩

end Go.Proofs.YtgpapegpdfonpaaGreatDoor
