/-
  Whether a triangle can stay if a point comes.
-/
import Derived.Test.YtgpapegpdfonpaaGreatDoorJoinAC
import Derived.Test.YtgpapegpdfonpaaGreatDoorWalksG
namespace Go.Proofs.YtgpapegpdfonpaaGreatDoor
set_option linter.unusedVariables false
set_option linter.unusedSimpArgs false
open Go.RowKit Go.Maps

/-- the net's own block: how sides and circles are asked, the two maps -/
structure NetAt (w : World) (N Bp A H : Nat) : Prop where
  c0 : w.cell? ⟨N, 0, none⟩ = some (.func (.func 34) #[] #[.pointer (some ⟨Bp, 0, none⟩)])
  c1 : w.cell? ⟨N, 1, none⟩ = some (.func (.func 36) #[] #[.pointer (some ⟨Bp, 0, none⟩)])
  c2 : w.cell? ⟨N, 2, none⟩ = some (.map (some A))
  c3 : w.cell? ⟨N, 3, none⟩ = some (.map (some H))
theorem NetAt.lt {w : World} {N Bp A H : Nat} (h : NetAt w N Bp A H) : N < w.heap.size := cell_blk h.c0
theorem NetAt.below {w w' : World} {M N Bp A H : Nat} (h : NetAt w N Bp A H) (hb : Below M w w') (hN : w.heap.size ≤ M) : NetAt w' N Bp A H :=
  have hlt := Nat.lt_of_lt_of_le h.lt hN
  ⟨(hb.cell (p := ⟨N, 0, none⟩) hlt).trans h.c0, (hb.cell (p := ⟨N, 1, none⟩) hlt).trans h.c1, (hb.cell (p := ⟨N, 2, none⟩) hlt).trans h.c2, (hb.cell (p := ⟨N, 3, none⟩) hlt).trans h.c3⟩
theorem NetAt.grown {w w' : World} {N Bp A H : Nat} {row : Option Nat} (h : NetAt w N Bp A H) (hg : w.grownBy w' row) (hne : some N ≠ row) : NetAt w' N Bp A H :=
  ⟨hg.cell h.c0 hne, hg.cell h.c1 hne, hg.cell h.c2 hne, hg.cell h.c3 hne⟩

/-- what is asked of four points by their numbers -/
def askC (l : List Pt) (i j k m : Nat) : Int := sg (sideN (px l i) (py l i) (px l j) (py l j) (px l k) (py l k)) * sg (circN (px l i) (py l i) (px l j) (py l j) (px l k) (py l k) (px l m) (py l m))
def askS (l : List Pt) (i j k : Nat) : Int := sg (sideN (px l i) (py l i) (px l j) (py l j) (px l k) (py l k))
theorem sg_range (x : Int) : -1 ≤ sg x ∧ sg x ≤ 1 := by unfold sg; split; omega; split <;> omega

set_option maxRecDepth 100000 in
set_option maxHeartbeats 1000000 in
theorem holds_real (N Bp A H b off cap : Nat) (l : List Pt) (i j k p : Nat) (w : World) (hi : i < l.length) (hj : j < l.length) (hk : k < l.length) (hp : p < l.length) (hl : l.length ≤ 60)
    (hN : NetAt w N Bp A H) (hA : AskAt w Bp b off cap l) (hn : AllNear l) :
    Calls Tryz.prog 106 #[.pointer (some ⟨N, 0, none⟩), triV i j k, iv p] w fun e w' => e = .returned (.bool (decide (0 < askC l i j k p))) ∧ Below w.heap.size w w' := by
  have hne : ((i : Nat) : Int) ≠ -1 := by omega
  have hb1 := below1 w (.cells #[.int .i64 i, .int .i64 j, .int .i64 k] 53)
  have A2 := (hA.below hb1 (Nat.le_refl _)).drew
  have N2 := hN.below hb1 (Nat.le_refl _)
  have hlt := hN.lt
  go_enter Tryz.func106, Tryz.ntmps106
  go_wp2_with fail
  generalize hW : w.alloc (.cells #[.int .i64 i, .int .i64 j, .int .i64 k] 53) = W at *
  have d0 : W.cell? ⟨w.heap.size, 0, none⟩ = some (.int .i64 i) := by rw [← hW]; simp [go_sem]
  have d1 : W.cell? ⟨w.heap.size, 1, none⟩ = some (.int .i64 j) := by rw [← hW]; simp [go_sem]
  have d2 : W.cell? ⟨w.heap.size, 2, none⟩ = some (.int .i64 k) := by rw [← hW]; simp [go_sem]
  have e1 := N2.c1
  have hask := ask2_any Bp b off cap l i j k p W.drew hi hj hk hp (by omega) A2.hb A2.hB A2.cell A2.pts hn
  clear A2 N2 hA hN hW
  rw [show sg (sideN (px l i) (py l i) (px l j) (py l j) (px l k) (py l k)) * sg (circN (px l i) (py l i) (px l j) (py l j) (px l k) (py l k) (px l p) (py l p)) = askC l i j k p from rfl] at hask
  generalize hC : askC l i j k p = C at hask
  have hk : ∀ w', Below W.drew.heap.size W.drew w' → w'.cell? ⟨N, 1, none⟩ = some (.func (.func 36) #[] #[.pointer (some ⟨Bp, 0, none⟩)]) ∧ w'.cell? ⟨w.heap.size, 0, none⟩ = some (.int .i64 i) ∧ w'.cell? ⟨w.heap.size, 1, none⟩ = some (.int .i64 j) ∧ w'.cell? ⟨w.heap.size, 2, none⟩ = some (.int .i64 k) := fun w' h =>
    ⟨(h.cell (p := ⟨N, 1, none⟩) (cell_blk e1)).trans e1, (h.cell (p := ⟨w.heap.size, 0, none⟩) (cell_blk d0)).trans d0, (h.cell (p := ⟨w.heap.size, 1, none⟩) (cell_blk d1)).trans d1, (h.cell (p := ⟨w.heap.size, 2, none⟩) (cell_blk d2)).trans d2⟩
  go_region_held3 (fun w' => w'.cell? ⟨N, 1, none⟩ = some (.func (.func 36) #[] #[.pointer (some ⟨Bp, 0, none⟩)]) ∧ w'.cell? ⟨w.heap.size, 0, none⟩ = some (.int .i64 i) ∧ w'.cell? ⟨w.heap.size, 1, none⟩ = some (.int .i64 j) ∧ w'.cell? ⟨w.heap.size, 2, none⟩ = some (.int .i64 k)) (first | exact ⟨e1, d0, d1, d2⟩ | exact hk _ hb2)
    (first | (go_at_call 36; refine hask.mono ?_; rintro e w' ⟨rfl, hb2⟩))
  go_wp2
  go_ret
  exact ⟨by rw [hC]; rfl, hb1.trans (Below.mono (w := W) (w' := w') ⟨hb2.os, hb2.tape, hb2.output, hb2.size, hb2.block⟩ hb1.size)⟩

theorem below_undrew {N : Nat} {w w' : World} (h : Below N w.drew w') : Below N w w' := ⟨h.os, h.tape, h.output, h.size, h.block⟩

set_option maxRecDepth 100000 in
set_option maxHeartbeats 2000000 in
theorem holds_side (N Bp A H b off cap : Nat) (l : List Pt) (u v p : Nat) (w : World) (hu : u < l.length) (hv : v < l.length) (hp : p < l.length) (hl : l.length ≤ 60)
    (hN : NetAt w N Bp A H) (hA : AskAt w Bp b off cap l) (hn : AllNear l) (hs : askS l u v p ≠ 0) :
    Calls Tryz.prog 106 #[.pointer (some ⟨N, 0, none⟩), triV (-1) u v, iv p] w fun e w' => e = .returned (.bool (decide (0 < askS l u v p))) ∧ Below w.heap.size w w' := by
  have hb1 := below2 w (.cells #[.int .i64 (-1), .int .i64 u, .int .i64 v] 53) (.cells #[.int .i64 u, .int .i64 v] 165)
  have A2 := (hA.below hb1 (Nat.le_refl _)).drew
  have N2 := hN.below hb1 (Nat.le_refl _)
  have hlt := hN.lt
  go_enter Tryz.func106, Tryz.ntmps106
  go_wp2_with fail
  generalize hW : (w.alloc (.cells #[.int .i64 (-1), .int .i64 u, .int .i64 v] 53)).alloc (.cells #[.int .i64 u, .int .i64 v] 165) = W at *
  have d0 : W.cell? ⟨w.heap.size + 1, 0, none⟩ = some (.int .i64 u) := by rw [← hW]; simp [go_sem]
  have d1 : W.cell? ⟨w.heap.size + 1, 1, none⟩ = some (.int .i64 v) := by rw [← hW]; simp [go_sem]
  have e1 := N2.c0
  have hask := ask1_any Bp b off cap l u v p W.drew hu hv hp (by omega) A2.hb A2.hB A2.cell A2.pts hn
  clear A2 N2 hA hN hW
  rw [show sg (sideN (px l u) (py l u) (px l v) (py l v) (px l p) (py l p)) = askS l u v p from rfl] at hask
  generalize hC : askS l u v p = C at hask hs
  have hk : ∀ w', Below W.drew.heap.size W.drew w' → w'.cell? ⟨N, 0, none⟩ = some (.func (.func 34) #[] #[.pointer (some ⟨Bp, 0, none⟩)]) ∧ w'.cell? ⟨w.heap.size + 1, 0, none⟩ = some (.int .i64 u) ∧ w'.cell? ⟨w.heap.size + 1, 1, none⟩ = some (.int .i64 v) := fun w' h =>
    ⟨(h.cell (p := ⟨N, 0, none⟩) (cell_blk e1)).trans e1, (h.cell (p := ⟨w.heap.size + 1, 0, none⟩) (cell_blk d0)).trans d0, (h.cell (p := ⟨w.heap.size + 1, 1, none⟩) (cell_blk d1)).trans d1⟩
  go_region_held3 (fun w' => w'.cell? ⟨N, 0, none⟩ = some (.func (.func 34) #[] #[.pointer (some ⟨Bp, 0, none⟩)]) ∧ w'.cell? ⟨w.heap.size + 1, 0, none⟩ = some (.int .i64 u) ∧ w'.cell? ⟨w.heap.size + 1, 1, none⟩ = some (.int .i64 v)) (first | exact ⟨e1, d0, d1⟩ | exact hk _ hb2)
    (first | (go_at_call 34; refine hask.mono ?_; rintro e w' ⟨rfl, hb2⟩))
  go_wp2
  go_ret
  exact ⟨by rw [hC]; rfl, hb1.trans ((below_undrew hb2).mono hb1.size)⟩

theorem zeroTri (w : World) : (zeroValue 53).run Tryz.prog w = .ok (triV 0 0 0) w := by kernel_rfl

set_option maxRecDepth 100000 in
set_option maxHeartbeats 2000000 in
theorem holds_line (N Bp A H b off cap n : Nat) (l : List Pt) (f : Int → Int → Option Value) (u v p i j k : Nat) (w : World) (hu : u < l.length) (hv : v < l.length) (hp : p < l.length) (hl : l.length ≤ 60)
    (hi : i < l.length) (hj : j < l.length) (hk : k < l.length)
    (hN : NetAt w N Bp A H) (hA : AskAt w Bp b off cap l) (hn : AllNear l) (hs : askS l u v p = 0) (hm : MapIs Tryz.prog 165 w A n f) (hf : f v u = some (triV i j k)) :
    Calls Tryz.prog 106 #[.pointer (some ⟨N, 0, none⟩), triV (-1) u v, iv p] w fun e w' => e = .returned (.bool (decide (0 < askC l i j k p))) ∧ Below w.heap.size w w' := by
  have hb1 := below2 w (.cells #[.int .i64 (-1), .int .i64 u, .int .i64 v] 53) (.cells #[.int .i64 u, .int .i64 v] 165)
  have A2 := hA.below hb1 (Nat.le_refl _)
  have N2 := hN.below hb1 (Nat.le_refl _)
  have M2 := hm.below hb1 hm.lt
  have hlt := hN.lt
  go_enter Tryz.func106, Tryz.ntmps106
  go_wp2_with fail
  generalize hW : (w.alloc (.cells #[.int .i64 (-1), .int .i64 u, .int .i64 v] 53)).alloc (.cells #[.int .i64 u, .int .i64 v] 165) = W at *
  have d0 : W.cell? ⟨w.heap.size + 1, 0, none⟩ = some (.int .i64 u) := by rw [← hW]; simp [go_sem]
  have d1 : W.cell? ⟨w.heap.size + 1, 1, none⟩ = some (.int .i64 v) := by rw [← hW]; simp [go_sem]
  have e1 := N2.c0
  have e2 := N2.c2
  have hask := ask1_any Bp b off cap l u v p W.drew hu hv hp (by omega) A2.drew.hb A2.drew.hB A2.drew.cell A2.drew.pts hn
  clear hA hN hW hm
  rw [show sg (sideN (px l u) (py l u) (px l v) (py l v) (px l p) (py l p)) = 0 from hs] at hask
  clear hs
  have hk1 : ∀ w', Below W.drew.heap.size W.drew w' → w'.cell? ⟨N, 0, none⟩ = some (.func (.func 34) #[] #[.pointer (some ⟨Bp, 0, none⟩)]) ∧ w'.cell? ⟨w.heap.size + 1, 0, none⟩ = some (.int .i64 u) ∧ w'.cell? ⟨w.heap.size + 1, 1, none⟩ = some (.int .i64 v) := fun w' h =>
    ⟨(h.cell (p := ⟨N, 0, none⟩) (cell_blk e1)).trans e1, (h.cell (p := ⟨w.heap.size + 1, 0, none⟩) (cell_blk d0)).trans d0, (h.cell (p := ⟨w.heap.size + 1, 1, none⟩) (cell_blk d1)).trans d1⟩
  have hk2 : ∀ w1 w2, (Below W.heap.size W w1 ∧ w1.cell? ⟨N, 2, none⟩ = some (.map (some A)) ∧ w1.cell? ⟨w.heap.size + 1, 0, none⟩ = some (.int .i64 u) ∧ w1.cell? ⟨w.heap.size + 1, 1, none⟩ = some (.int .i64 v) ∧ MapIs Tryz.prog 165 w1 A n f) → Below w1.heap.size w1 w2 → (Below W.heap.size W w2 ∧ w2.cell? ⟨N, 2, none⟩ = some (.map (some A)) ∧ w2.cell? ⟨w.heap.size + 1, 0, none⟩ = some (.int .i64 u) ∧ w2.cell? ⟨w.heap.size + 1, 1, none⟩ = some (.int .i64 v) ∧ MapIs Tryz.prog 165 w2 A n f) := fun w1 w2 h hb =>
    have hbb := h.1.trans (hb.mono h.1.size)
    ⟨hbb, (hbb.cell (p := ⟨N, 2, none⟩) (cell_blk e2)).trans e2, (hbb.cell (p := ⟨w.heap.size + 1, 0, none⟩) (cell_blk d0)).trans d0, (hbb.cell (p := ⟨w.heap.size + 1, 1, none⟩) (cell_blk d1)).trans d1, M2.below hbb M2.lt⟩
  have hk3 : ∀ w1, (Below W.heap.size W w1 ∧ w1.cell? ⟨N, 2, none⟩ = some (.map (some A)) ∧ w1.cell? ⟨w.heap.size + 1, 0, none⟩ = some (.int .i64 u) ∧ w1.cell? ⟨w.heap.size + 1, 1, none⟩ = some (.int .i64 v) ∧ MapIs Tryz.prog 165 w1 A n f) → (Below W.heap.size W w1.drew ∧ w1.drew.cell? ⟨N, 2, none⟩ = some (.map (some A)) ∧ w1.drew.cell? ⟨w.heap.size + 1, 0, none⟩ = some (.int .i64 u) ∧ w1.drew.cell? ⟨w.heap.size + 1, 1, none⟩ = some (.int .i64 v) ∧ MapIs Tryz.prog 165 w1.drew A n f) := fun w1 h => ⟨h.1.drew, h.2.1, h.2.2.1, h.2.2.2.1, h.2.2.2.2.block rfl⟩
  have hst : ∀ w', Below W.drew.heap.size W.drew w' → (Below W.heap.size W w' ∧ w'.cell? ⟨N, 2, none⟩ = some (.map (some A)) ∧ w'.cell? ⟨w.heap.size + 1, 0, none⟩ = some (.int .i64 u) ∧ w'.cell? ⟨w.heap.size + 1, 1, none⟩ = some (.int .i64 v) ∧ MapIs Tryz.prog 165 w' A n f) := fun w' h =>
    have h := below_undrew h
    ⟨h, (h.cell (p := ⟨N, 2, none⟩) (cell_blk e2)).trans e2, (h.cell (p := ⟨w.heap.size + 1, 0, none⟩) (cell_blk d0)).trans d0, (h.cell (p := ⟨w.heap.size + 1, 1, none⟩) (cell_blk d1)).trans d1, M2.below h M2.lt⟩
  have hlk : ∀ w', MapIs Tryz.prog 165 w' A n f → (Instr.lookup 159 (.map (some A)) (.agg #[.int .i64 v, .int .i64 u]) false).run Tryz.prog w' = .ok (.agg #[.int .i64 i, .int .i64 j, .int .i64 k]) w' := fun w' h => by
    have := h.look pairK Tryz.underlying159 (zeroTri w') (a := v) (b := u) (i64_of (by omega) (by omega)) (i64_of (by omega) (by omega))
    rw [hf] at this; exact this
  have HR : ∀ w', (Below W.heap.size W w' ∧ w'.cell? ⟨N, 2, none⟩ = some (.map (some A)) ∧ w'.cell? ⟨w.heap.size + 1, 0, none⟩ = some (.int .i64 u) ∧ w'.cell? ⟨w.heap.size + 1, 1, none⟩ = some (.int .i64 v) ∧ MapIs Tryz.prog 165 w' A n f) → Calls Tryz.prog 106 #[.pointer (some ⟨N, 0, none⟩), .agg #[.int .i64 i, .int .i64 j, .int .i64 k], iv p] w' fun e w'' => e = .returned (.bool (decide (0 < askC l i j k p))) ∧ Below w'.heap.size w' w'' := fun w' h =>
    holds_real N Bp A H b off cap l i j k p w' hi hj hk hp hl (N2.below h.1 (Nat.le_refl _)) (A2.below h.1 (Nat.le_refl _)) hn
  clear A2 N2 M2
  generalize hC : askC l i j k p = C at HR
  go_region_held3 (fun w' => w'.cell? ⟨N, 0, none⟩ = some (.func (.func 34) #[] #[.pointer (some ⟨Bp, 0, none⟩)]) ∧ w'.cell? ⟨w.heap.size + 1, 0, none⟩ = some (.int .i64 u) ∧ w'.cell? ⟨w.heap.size + 1, 1, none⟩ = some (.int .i64 v)) (first | exact ⟨e1, d0, d1⟩ | exact hk1 _ hb2)
    (first | (go_at_call 34; refine hask.mono ?_; rintro e w' ⟨rfl, hb2⟩))
  go_wp2_with fail
  have hS0 := hst _ hb2
  clear hk1 hask hb2 hst e1 e2 d0 d1
  generalize w' = V at *
  obtain ⟨g0, g1, g2, g3, g4⟩ := id hS0
  go_region_held3 (fun w' => Below W.heap.size W w' ∧ w'.cell? ⟨N, 2, none⟩ = some (.map (some A)) ∧ w'.cell? ⟨w.heap.size + 1, 0, none⟩ = some (.int .i64 u) ∧ w'.cell? ⟨w.heap.size + 1, 1, none⟩ = some (.int .i64 v) ∧ MapIs Tryz.prog 165 w' A n f) (first | exact hk3 _ hS0 | exact hk2 _ _ (hk3 _ hS0) hb3 | exact hk2 _ _ (by assumption) hb3)
    (first | (go_at_call 107; refine (turned_any _ _ _).mono ?_; rintro e w' ⟨rfl, hb3⟩) | (go_at_call 106; refine (HR _ (by assumption)).mono ?_; rintro e w' ⟨rfl, hb3⟩))
  have hS1 := (by assumption : Below W.heap.size W w' ∧ w'.cell? ⟨N, 2, none⟩ = some (.map (some A)) ∧ w'.cell? ⟨w.heap.size + 1, 0, none⟩ = some (.int .i64 u) ∧ w'.cell? ⟨w.heap.size + 1, 1, none⟩ = some (.int .i64 v) ∧ MapIs Tryz.prog 165 w' A n f)
  go_wp2
  go_ret
  exact ⟨by rw [hC]; rfl, hb1.trans (hS1.1.mono hb1.size)⟩
end Go.Proofs.YtgpapegpdfonpaaGreatDoor
