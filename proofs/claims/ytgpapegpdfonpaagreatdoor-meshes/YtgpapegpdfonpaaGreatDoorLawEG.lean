/-
  The program's answers and the document's, side by side.
  The statement's steps: World.points.
  The statement's steps: World.step, World.plays, and the statement itself.
-/
import Derived.Test.YtgpapegpdfonpaaGreatDoorLawBD
set_option linter.unusedVariables false
set_option linter.unusedSimpArgs false
namespace Go.Proofs.YtgpapegpdfonpaaGreatDoor
open Go.RowKit
attribute [local go_sem ↓] Go.wp_at_zero Go.wp_at_succ
theorem orient_any (ax ay bx by' cx cy : Int) (w : World) :
  Calls Tryz.prog 8 #[.agg #[.int .i64 ax, .int .i64 ay], .agg #[.int .i64 bx, .int .i64 by'], .agg #[.int .i64 cx, .int .i64 cy]] w fun e w' =>
   e = .returned (.tuple #[.int .i64 (if (farB ax ay || farB bx by' || farB cx cy) = true then 0 else sg (sideN ax ay bx by' cx cy)), .int .i64 (if (farB ax ay || farB bx by' || farB cx cy) = true then 1 else 0)]) ∧ Below w.heap.size w w' := by
 cases h : (farB ax ay || farB bx by' || farB cx cy) with
 | true => exact orient_far ax ay bx by' cx cy w h
 | false =>
  simp only [Bool.or_eq_false_iff] at h
  exact orient_near ax ay bx by' cx cy w (farB_near h.1.1) (farB_near h.1.2) (farB_near h.2)
theorem inCircle_any (ax ay bx by' cx cy dx dy : Int) (w : World) :
  Calls Tryz.prog 40 #[.agg #[.int .i64 ax, .int .i64 ay], .agg #[.int .i64 bx, .int .i64 by'], .agg #[.int .i64 cx, .int .i64 cy], .agg #[.int .i64 dx, .int .i64 dy]] w fun e w' =>
   e = .returned (.tuple #[.int .i64 (if (farB ax ay || farB bx by' || farB cx cy || farB dx dy) = true then 0 else sg (sideN ax ay bx by' cx cy) * sg (circN ax ay bx by' cx cy dx dy)), .int .i64 (if (farB ax ay || farB bx by' || farB cx cy || farB dx dy) = true then 1 else 0)]) ∧ Below w.heap.size w w' := by
 cases h : (farB ax ay || farB bx by' || farB cx cy || farB dx dy) with
 | true => exact inCircle_far ax ay bx by' cx cy dx dy w h
 | false =>
  simp only [Bool.or_eq_false_iff] at h
  exact inCircle_near ax ay bx by' cx cy dx dy w (farB_near h.1.1.1) (farB_near h.1.1.2) (farB_near h.1.2) (farB_near h.2)
theorem num_any (x : Int) (w : World) : Calls Tryz.prog 39 #[.int .i64 x] w fun e w' => e = .returned (.int .i64 x) ∧ w' = w := by
 go_enter Tryz.func39, Tryz.ntmps39
 go_wp2
 go_ret
 exact ⟨rfl, rfl⟩
def Ans (l : List Pt) (c : List Nat) : Prop := (c = [] ∧ (faultN l ≠ 0 ∨ l = [])) ∨ (faultN l = 0 ∧ 0 < l.length ∧ ∃ is, InOrder l is ∧ c = cornersN l is)
theorem Ans.le {l : List Pt} {c : List Nat} (h : Ans l c) : c.length ≤ 60 := by
 rcases h with ⟨rfl, _⟩ | ⟨hf, _, is, hio, rfl⟩
 ·simp
 ·obtain ⟨hl, hfar, hnd⟩ := fault_zero hf
  have := (arr_of hio hnd).le
  omega
theorem own_none (w : World) (base : Nat) : w.ownsRow base 3 1 (.slice none 0 0) ([] : List Nat).length (([] : List Nat).map toV) := World.ownsRow_nil _ _ _ _
theorem hullp_any (a : Option Addr) (cap : Nat) (l : List Pt) (w : World) (hr : RawAt w a l) :
  Calls Tryz.prog 43 #[.slice a l.length cap] w fun e w' => ∃ v c, e = .returned (.tuple #[v, .int .i64 (faultN l)]) ∧ Ans l c ∧ w'.ownsRow w.heap.size 3 1 v c.length (c.map toV) ∧ Below w.heap.size w w' := by
 by_cases h60 : 60 < l.length
 ·refine (hull_many a l.length cap w h60).mono ?_
  rintro e w' ⟨rfl, hb⟩
  have hf : faultN l = 2 := fault_many' h60
  exact ⟨_, [], by rw [hf], .inl ⟨rfl, .inl (by rw [hf]; decide)⟩, own_none _ _, hb⟩
 ·by_cases h0 : l = []
  ·subst h0
   refine (hull_none a cap w).mono ?_
   rintro e w' ⟨v, rfl, ho, hb⟩
   exact ⟨v, [], rfl, .inl ⟨rfl, .inr rfl⟩, ho, hb⟩
  ·have hlp : 0 < l.length := List.length_pos_iff.2 h0
   rcases hr with hr | ⟨b, off, rfl, hb, hp⟩
   ·exact absurd hr h0
   ·by_cases hf : faultN l = 0
    ·refine (hull_any b off cap l (l.length - 1) w (by omega) hb hp hf).mono ?_
     rintro e w' ⟨v, is, rfl, hio, ho, hb⟩
     exact ⟨v, cornersN l is, by rw [hf], .inr ⟨hf, hlp, is, hio, rfl⟩, ho, hb⟩
    ·refine (hull_fault b off cap l (l.length - 1) w (by omega) (by omega) hb hp hf).mono ?_
     rintro e w' ⟨rfl, hb⟩
     exact ⟨_, [], rfl, .inl ⟨rfl, .inl hf⟩, own_none _ _, hb⟩
theorem hullr_any (a : Option Addr) (cap : Nat) (l : List Pt) (c : List Nat) (w : World) (hr : RawAt w a l) (hA : Ans l c) :
  Calls Tryz.prog 44 #[.slice a l.length cap] w fun e w' => ∃ v, e = .returned (.tuple #[v, .int .i64 (faultN l)]) ∧ w'.ownsRow w.heap.size 3 1 v c.length (c.map toV) ∧ Below w.heap.size w w' := by
 rcases hA with ⟨rfl, hf⟩ | ⟨hf, hlp, is, hio, rfl⟩
 ·by_cases h0 : faultN l = 0
  ·have : l = [] := hf.resolve_left (fun h => h h0)
   subst this
   refine (rhull_none a cap w).mono ?_
   rintro e w' ⟨rfl, hb⟩
   exact ⟨_, rfl, own_none _ _, hb⟩
  ·refine (rhull_fault a cap l w hr h0).mono ?_
   rintro e w' ⟨rfl, hb⟩
   exact ⟨_, rfl, own_none _ _, hb⟩
 ·rcases hr with rfl | ⟨b, off, rfl, hb, hp⟩
  ·simp at hlp
  ·refine (rhull_any b off cap l is (l.length - 1) w (by omega) hb hp hf hio).mono ?_
   rintro e w' ⟨v, rfl, ho, hb⟩
   exact ⟨v, by rw [hf], ho, hb⟩
end Go.Proofs.YtgpapegpdfonpaaGreatDoor

namespace Go.Proofs.YtgpapegpdfonpaaGreatDoor
open Go.RowKit
attribute [local go_sem ↓] Go.wp_at_zero Go.wp_at_succ
abbrev opVal (kd n wh ax ay bx by' cx cy dx dy : Int) (la : Option Addr) (ln lc : Nat) (ta : Option Addr) (tn tc : Nat) (s : ByteArray) : Value :=
 .agg #[.int .i64 kd, .int .i64 n, .int .i64 wh, .int .i64 ax, .int .i64 ay, .int .i64 bx, .int .i64 by', .int .i64 cx, .int .i64 cy, .int .i64 dx, .int .i64 dy, .slice la ln lc, .slice ta tn tc, .string s]
theorem box_at {w w1 : World} {cs : Array Value} {T : TypeId} (hb : Below (w.alloc (.cells cs T)).heap.size (w.alloc (.cells cs T)) w1) (j : Nat) : w1.cell? ⟨w.heap.size, j, none⟩ = cs[j]? := by
 rw [hb.cell (p := ⟨w.heap.size, j, none⟩) (by simp)]
 have e := heap_alloc_new w (.cells cs T)
 simp only [World.cell?, e]
 simp
theorem below_two {w w1 w2 : World} {o : Obj} (hb : Below (w.alloc o).heap.size (w.alloc o) w1) (hc : Below w1.heap.size w1 w2) : Below w.heap.size w w2 := by
 have h1 := (below1 w o).trans (hb.mono (by simp))
 exact h1.trans (hc.mono h1.size)
set_option maxHeartbeats 2000000 in
set_option maxRecDepth 100000 in
theorem points_orient (WB : Nat) (n wh ax ay bx by' cx cy dx dy : Int) (la : Option Addr) (ln lc : Nat) (ta : Option Addr) (tn tc : Nat) (s : ByteArray) (w : World) :
  Calls Tryz.prog 19 #[.pointer (some ⟨WB, 0, none⟩), opVal 1 n wh ax ay bx by' cx cy dx dy la ln lc ta tn tc s] w fun e w' => e = .returned (.bool true) ∧ Below w.heap.size w w' := by
 have FP := fun W => orient_any ax ay bx by' cx cy W
 have FR := fun W => rorient_any ax ay bx by' cx cy W
 generalize (if (farB ax ay || farB bx by' || farB cx cy) = true then 0 else sg (sideN ax ay bx by' cx cy)) = r at *
 generalize (if (farB ax ay || farB bx by' || farB cx cy) = true then (1 : Int) else 0) = f at *
 go_enter Tryz.func19, Tryz.ntmps19
 go_wp2_with (first
   | (go_at_call 8; refine (FP _).mono ?_; rintro e w1 ⟨rfl, hb1⟩
      have c3 : w1.cell? ⟨w.heap.size, 3, none⟩ = some (.int .i64 ax) := box_at hb1 3
      have c4 : w1.cell? ⟨w.heap.size, 4, none⟩ = some (.int .i64 ay) := box_at hb1 4
      have c5 : w1.cell? ⟨w.heap.size, 5, none⟩ = some (.int .i64 bx) := box_at hb1 5
      have c6 : w1.cell? ⟨w.heap.size, 6, none⟩ = some (.int .i64 by') := box_at hb1 6
      have c7 : w1.cell? ⟨w.heap.size, 7, none⟩ = some (.int .i64 cx) := box_at hb1 7
      have c8 : w1.cell? ⟨w.heap.size, 8, none⟩ = some (.int .i64 cy) := box_at hb1 8)
   | (go_at_call 38; refine (FR _).mono ?_; rintro e w2 ⟨rfl, hb2⟩)
   | (go_at_call 39; refine (num_any _ _).mono ?_; rintro e w3 ⟨rfl, rfl⟩))
 go_ret
 exact ⟨rfl, below_two hb1 hb2⟩
set_option maxHeartbeats 2000000 in
set_option maxRecDepth 100000 in
theorem points_circle (WB : Nat) (n wh ax ay bx by' cx cy dx dy : Int) (la : Option Addr) (ln lc : Nat) (ta : Option Addr) (tn tc : Nat) (s : ByteArray) (w : World) :
  Calls Tryz.prog 19 #[.pointer (some ⟨WB, 0, none⟩), opVal 2 n wh ax ay bx by' cx cy dx dy la ln lc ta tn tc s] w fun e w' => e = .returned (.bool true) ∧ Below w.heap.size w w' := by
 have FP := fun W => inCircle_any ax ay bx by' cx cy dx dy W
 have FR := fun W => rinCircle_any ax ay bx by' cx cy dx dy W
 generalize (if (farB ax ay || farB bx by' || farB cx cy || farB dx dy) = true then 0 else sg (sideN ax ay bx by' cx cy) * sg (circN ax ay bx by' cx cy dx dy)) = r at *
 generalize (if (farB ax ay || farB bx by' || farB cx cy || farB dx dy) = true then (1 : Int) else 0) = f at *
 go_enter Tryz.func19, Tryz.ntmps19
 go_wp2_with (first
   | (go_at_call 40; refine (FP _).mono ?_; rintro e w1 ⟨rfl, hb1⟩
      have c3 : w1.cell? ⟨w.heap.size, 3, none⟩ = some (.int .i64 ax) := box_at hb1 3
      have c4 : w1.cell? ⟨w.heap.size, 4, none⟩ = some (.int .i64 ay) := box_at hb1 4
      have c5 : w1.cell? ⟨w.heap.size, 5, none⟩ = some (.int .i64 bx) := box_at hb1 5
      have c6 : w1.cell? ⟨w.heap.size, 6, none⟩ = some (.int .i64 by') := box_at hb1 6
      have c7 : w1.cell? ⟨w.heap.size, 7, none⟩ = some (.int .i64 cx) := box_at hb1 7
      have c8 : w1.cell? ⟨w.heap.size, 8, none⟩ = some (.int .i64 cy) := box_at hb1 8
      have c9 : w1.cell? ⟨w.heap.size, 9, none⟩ = some (.int .i64 dx) := box_at hb1 9
      have c10 : w1.cell? ⟨w.heap.size, 10, none⟩ = some (.int .i64 dy) := box_at hb1 10)
   | (go_at_call 41; refine (FR _).mono ?_; rintro e w2 ⟨rfl, hb2⟩)
   | (go_at_call 39; refine (num_any _ _).mono ?_; rintro e w3 ⟨rfl, rfl⟩))
 go_ret
 exact ⟨rfl, below_two hb1 hb2⟩
def LowAt (WB : Nat) (w : World) (a : Option Addr) (l : List Pt) : Prop := l = [] ∨ ∃ b off, a = some ⟨b, off, none⟩ ∧ b < WB ∧ PtsAt w b off l
theorem LowAt.below {WB : Nat} {w w' : World} {a : Option Addr} {l : List Pt} (h : LowAt WB w a l) (hb : Below WB w w') : LowAt WB w' a l := by
 rcases h with h | ⟨b, off, e, hlt, hp⟩
 ·exact .inl h
 ·exact .inr ⟨b, off, e, hlt, hp.below hb hlt⟩
theorem RowP.raw {w : World} {g : Nat} {l : List Pt} (h : RowP w g (l ++ marksTo 8)) : RawAt w (some ⟨g, 0, none⟩) l := by
 refine .inr ⟨g, 0, rfl, h.lt, fun j hj => ?_⟩
 have := h.pts j (by simp; omega)
 rwa [lent_low hj] at this
end Go.Proofs.YtgpapegpdfonpaaGreatDoor

namespace Go.Proofs.YtgpapegpdfonpaaGreatDoor
open Go.RowKit
attribute [local go_sem ↓] Go.wp_at_zero Go.wp_at_succ
structure OpD where
 (kd n wh ax ay bx by' cx cy dx dy : Int) (la : Option Addr) (l : List Pt) (lc : Nat) (ta : Option Addr) (tn tc : Nat) (s : ByteArray)
def OpD.cells (o : OpD) : List Value := [.int .i64 o.kd, .int .i64 o.n, .int .i64 o.wh, .int .i64 o.ax, .int .i64 o.ay, .int .i64 o.bx, .int .i64 o.by', .int .i64 o.cx, .int .i64 o.cy, .int .i64 o.dx, .int .i64 o.dy, .slice o.la o.l.length o.lc, .slice o.ta o.tn o.tc, .string o.s]
def ScriptAt (WB : Nat) (w : World) (a : Option Addr) (os : List OpD) : Prop :=
 ∀ k, (h : k < os.length) → ∃ b off, a = some ⟨b, off, none⟩ ∧ b < WB ∧ (∀ j, j < 14 → w.cell? ⟨b, off + k * 14 + j, none⟩ = os[k].cells[j]?) ∧ LowAt WB w os[k].la os[k].l ∧ os[k].l.length ≤ 8796093021952
theorem ScriptAt.below {WB : Nat} {w w' : World} {a : Option Addr} {os : List OpD} (h : ScriptAt WB w a os) (hb : Below WB w w') : ScriptAt WB w' a os := fun k hk => by
 obtain ⟨b, off, ha, hlt, hc, hl, hn⟩ := h k hk
 exact ⟨b, off, ha, hlt, fun j hj => (hb.cell (p := ⟨b, off + k * 14 + j, none⟩) hlt).trans (hc j hj), hl.below hb, hn⟩
end Go.Proofs.YtgpapegpdfonpaaGreatDoor
