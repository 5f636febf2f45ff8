/-
  The order of points, by X and then by Y: the comparison, the sort, the numbers in order.
-/
import Derived.Test.YtgpapegpdfonpaaGreatDoorWalksC
import Derived.Test.YtgpapegpdfonpaaGreatDoorHullAll
import Derived.Test.YtgpapegpdfonpaaGreatDoorShelf
import Derived.Shelf.SlSortCmp.NoneTotal
import Derived.Deep.OwnRows
import Derived.Lib.RowBridge
import Derived.Lib.SortBridge
namespace Go.Proofs.YtgpapegpdfonpaaGreatDoor
set_option linter.unusedVariables false
set_option linter.unusedSimpArgs false
open Go.RowKit Go.Shelf Go.Sort
attribute [local go_sem ↓] Go.wp_at_zero Go.wp_at_succ

/-- -1, 0, 1 -/
def cmpI (x y : Int) : Int := if x < y then -1 else if y < x then 1 else 0

set_option maxHeartbeats 400000 in
theorem isNaN_any (x : Int) (w : World) : Calls Tryz.prog 113 #[.int .i64 x] w fun e w' => e = .returned (.bool false) ∧ w' = w := by
  go_enter Tryz.func113, Tryz.ntmps113
  go_wp2
  go_ret
  exact ⟨by simp, rfl⟩

set_option maxHeartbeats 400000 in
theorem compare_any (x y : Int) (w : World) : Calls Tryz.prog 74 #[.int .i64 x, .int .i64 y] w fun e w' => e = .returned (.int .i64 (cmpI x y)) ∧ w' = w := by
  unfold cmpI
  by_cases h1 : x < y
  · rw [if_pos h1]
    go_enter Tryz.func74, Tryz.ntmps74
    go_wp2_with (go_at_call 113; refine (isNaN_any _ _).mono ?_; rintro e w' ⟨rfl, rfl⟩)
    go_ret
    exact ⟨rfl, rfl⟩
  · rw [if_neg h1]
    by_cases h2 : y < x
    · rw [if_pos h2]
      go_enter Tryz.func74, Tryz.ntmps74
      go_wp2_with (go_at_call 113; refine (isNaN_any _ _).mono ?_; rintro e w' ⟨rfl, rfl⟩)
      go_ret
      exact ⟨rfl, rfl⟩
    · rw [if_neg h2]
      go_enter Tryz.func74, Tryz.ntmps74
      go_wp2_with (go_at_call 113; refine (isNaN_any _ _).mono ?_; rintro e w' ⟨rfl, rfl⟩)
      go_ret
      exact ⟨rfl, rfl⟩

/-- the first that is not 0 -/
def orI (x y : Int) : Int := if x = 0 then y else x

set_option maxHeartbeats 800000 in
theorem or2_any (b : Nat) (x y : Int) (w : World) (h0 : w.cell? ⟨b, 0, none⟩ = some (.int .i64 x)) (h1 : w.cell? ⟨b, 1, none⟩ = some (.int .i64 y)) :
    Calls Tryz.prog 73 #[.slice (some ⟨b, 0, none⟩) 2 2] w fun e w' => e = .returned (.int .i64 (orI x y)) ∧ w' = w := by
  unfold orI
  by_cases hx : x = 0
  · subst hx
    rw [if_pos rfl]
    by_cases hy : y = 0
    · subst hy
      go_enter Tryz.func73, Tryz.ntmps73
      go_wp2
      refine wp_loop_rounds 3 ?_
      rw [rounds_succ]
      go_wp2
      rw [rounds_succ]
      go_wp2
      rw [rounds_succ]
      go_wp2
      go_ret
      exact ⟨rfl, rfl⟩
    · have hy' : (y != 0) = true := by simpa using hy
      go_enter Tryz.func73, Tryz.ntmps73
      go_wp2
      refine wp_loop_rounds 2 ?_
      rw [rounds_succ]
      go_wp2
      rw [rounds_succ]
      go_wp2
      go_ret
      exact ⟨rfl, rfl⟩
  · rw [if_neg hx]
    have hx' : (x != 0) = true := by simpa using hx
    go_enter Tryz.func73, Tryz.ntmps73
    go_wp2
    refine wp_loop_rounds 1 ?_
    rw [rounds_succ]
    go_wp2
    go_ret
    exact ⟨rfl, rfl⟩

/-- the order of two points -/
def cmpP (p q : Pt) : Int := orI (cmpI p.1 q.1) (cmpI p.2 q.2)

set_option maxHeartbeats 1000000 in
theorem order1_any (B b off cap : Nat) (l : List (Int × Int)) (i j : Nat) (w : World) (hi : i < l.length) (hj : j < l.length) (hB : B < w.heap.size) (hb : b < w.heap.size)
    (hs : w.cell? ⟨B, 0, none⟩ = some (.slice (some ⟨b, off, none⟩) l.length cap)) (hp : PtsAt w b off l) :
    Calls Tryz.prog 72 #[.int .i64 i, .int .i64 j, .pointer (some ⟨B, 0, none⟩)] w fun e w' =>
      e = .returned (.int .i64 (cmpP (px l i, py l i) (px l j, py l j))) ∧ ∃ o, w' = (w.alloc o).drew := by
  have i1 : (0 : Int) ≤ (i : Int) := by omega
  have i2 : (i : Int) < (l.length : Int) := by omega
  have j1 : (0 : Int) ≤ (j : Int) := by omega
  have j2 : (j : Int) < (l.length : Int) := by omega
  obtain ⟨c0, c1⟩ := hp i hi
  obtain ⟨c2, c3⟩ := hp j hj
  change w.cell? _ = some (.int .i64 (px l i)) at c0
  change w.cell? _ = some (.int .i64 (py l i)) at c1
  change w.cell? _ = some (.int .i64 (px l j)) at c2
  change w.cell? _ = some (.int .i64 (py l j)) at c3
  unfold cmpP
  generalize px l i = xi at *; generalize py l i = yi at *
  generalize px l j = xj at *; generalize py l j = yj at *
  clear hp
  go_enter Tryz.func72, Tryz.ntmps72
  go_wp2_with fail
  go_region_held3 (fun w' => ∀ b o, b < w.heap.size → w'.cell? ⟨b, o, none⟩ = w.cell? ⟨b, o, none⟩) (first | exact fun _ _ _ => rfl | (intro b o hlt; simp only [World.cell?_drew]; exact World.cell?_alloc_past _ _ _ hlt))
    (first
      | (go_at_call 74; refine (compare_any _ _ _).mono ?_; rintro e w' ⟨rfl, rfl⟩)
      | (go_at_call 73; refine (or2_any _ (cmpI xi xj) (cmpI yi yj) _ ?_ ?_).mono ?_; (simp [go_sem]); (simp [go_sem]); rintro e w' ⟨rfl, rfl⟩))
  go_wp2
  go_ret
  exact ⟨rfl, _, rfl⟩

theorem cmpI_neg (x y : Int) : cmpI x y < 0 ↔ x < y := by
  unfold cmpI; split
  · simp [*]
  · split <;> omega
theorem cmpI_zero (x y : Int) : cmpI x y = 0 ↔ x = y := by
  unfold cmpI; split
  · omega
  · split <;> omega
theorem cmpP_neg (p q : Pt) : cmpP p q < 0 ↔ plt p q := by
  unfold cmpP orI plt
  have h1 := cmpI_zero p.1 q.1; have h2 := cmpI_neg p.1 q.1; have h3 := cmpI_neg p.2 q.2
  split
  · rename_i h
    rw [h3]; have := h1.1 h; omega
  · rename_i h
    rw [h2]
    have : ¬ p.1 = q.1 := fun e => h (h1.2 e)
    omega

/-- point number i of a list -/
def ptAt (l : List Pt) (i : Nat) : Pt := (px l i, py l i)

end Go.Proofs.YtgpapegpdfonpaaGreatDoor
