/-
  mesh.cornersAround, walked.
  mesh.triangleHolders, mesh.lineHolders, walked.
  mesh.Points.placeOf, walked; slices.Clone of points.
  mesh.Points.triangles, Nearest; the Mesh's own calls that hand on.
-/
import Derived.Test.YtgpapegpdfonpaaGreatDoorPtsU
import Derived.BigRegion
import Derived.BigQuiet
import Derived.Deep.CutRange
import Derived.Deep.DeepCutAuto
import Derived.Deep.CutBlock
set_option linter.unusedVariables false
set_option linter.unusedSimpArgs false
namespace Go.Proofs.YtgpapegpdfonpaaGreatDoor
open Go.RowKit
attribute [local go_sem ↓] Go.wp_at_zero Go.wp_at_succ
def hK (s0 s1 s2 : Int) (t : T3) : Nat → List Int
 | 0 => [t.1, t.2.1, t.2.2]
 | 1 => if s0 = 0 then [min t.1 t.2.1, max t.1 t.2.1] else [t.1, t.2.1, t.2.2]
 | 2 => if s1 = 0 then [min t.2.1 t.2.2, max t.2.1 t.2.2] else if s0 = 0 then [min t.1 t.2.1, max t.1 t.2.1] else [t.1, t.2.1, t.2.2]
 | _ => if s2 = 0 then [min t.2.2 t.1, max t.2.2 t.1] else if s1 = 0 then [min t.2.1 t.2.2, max t.2.1 t.2.2] else if s0 = 0 then [min t.1 t.2.1, max t.1 t.2.1] else [t.1, t.2.1, t.2.2]
theorem held_hK {s0 s1 s2 : Int} {t : T3} (h0 : 0 ≤ s0) (h1 : 0 ≤ s1) (h2 : 0 ≤ s2) : heldB s0 s1 s2 t = hK s0 s1 s2 t 3 := by
 unfold heldB hK
 rw [if_neg (by omega)]
 rfl
theorem heldB_sg (a b c : Int) (t : T3) : heldB (sg a) (sg b) (sg c) t = heldB a b c t := by
 have n : ∀ x : Int, sg x < 0 ↔ x < 0 := fun x => by unfold sg; split <;> (try split) <;> omega
 have z : ∀ x : Int, sg x = 0 ↔ x = 0 := sg_zero_iff
 unfold heldB
 simp only [n, z]
theorem nums_two {w : World} {base g : Nat} {a b : Int} (h : w.ownsRow base 3 1 (.slice (some ⟨g, 0, none⟩) 2 2) 2 [.int .i64 a, .int .i64 b]) : NumsAt w (some ⟨g, 0, none⟩) [a, b] := by
 have h' : w.ownsRow base 3 1 (.slice (some ⟨g, 0, none⟩) [a, b].length 2) [a, b].length ([a, b].map (.int .i64)) := h
 exact NumsAt.of_own h'
set_option maxRecDepth 100000 in
set_option maxHeartbeats 8000000 in
theorem corners_any (B b off cap : Nat) (l : List Pt) (x y z n : Nat) (w : World) (hl : l.length ≤ 61) (hx : x < l.length) (hy : y < l.length) (hz : z < l.length) (hn : n < l.length) (A : AskAt w B b off cap l) (hnear : AllNear l) :
  Calls Tryz.prog 190 #[.agg #[.int .i64 (x : Int), .int .i64 (y : Int), .int .i64 (z : Int)], .int .i64 (n : Int), askV B] w fun e w' =>
   ∃ a c, e = .returned (.slice a (heldB (askS l x y n) (askS l y z n) (askS l z x n) ((x : Int), (y : Int), (z : Int))).length c) ∧ NumsAt w' a (heldB (askS l x y n) (askS l y z n) (askS l z x n) ((x : Int), (y : Int), (z : Int))) ∧ Below w.heap.size w w' := by
 have HHK : Hid (∀ t : T3, 0 ≤ askS l x y n → 0 ≤ askS l y z n → 0 ≤ askS l z x n → heldB (askS l x y n) (askS l y z n) (askS l z x n) t = hK (askS l x y n) (askS l y z n) (askS l z x n) t 3) := fun t h0 h1 h2 => held_hK h0 h1 h2
 have HNEG : Hid (∀ t : T3, (askS l x y n < 0 ∨ askS l y z n < 0 ∨ askS l z x n < 0) → heldB (askS l x y n) (askS l y z n) (askS l z x n) t = []) := fun t h => by unfold heldB; rw [if_pos h]
 have R0 := sg_range (sideN (px l x) (py l x) (px l y) (py l y) (px l n) (py l n))
 have R1 := sg_range (sideN (px l y) (py l y) (px l z) (py l z) (px l n) (py l n))
 have R2 := sg_range (sideN (px l z) (py l z) (px l x) (py l x) (px l n) (py l n))
 have HA0 := fun W (A2 : AskAt W B b off cap l) => ask1_any B b off cap l x y n W hx hy hn (by omega) A2.hb A2.hB A2.cell A2.pts hnear
 have HA1 := fun W (A2 : AskAt W B b off cap l) => ask1_any B b off cap l y z n W hy hz hn (by omega) A2.hb A2.hB A2.cell A2.pts hnear
 have HA2 := fun W (A2 : AskAt W B b off cap l) => ask1_any B b off cap l z x n W hz hx hn (by omega) A2.hb A2.hB A2.cell A2.pts hnear
 have e0 : sg (sideN (px l x) (py l x) (px l y) (py l y) (px l n) (py l n)) = askS l x y n := rfl
 have e1 : sg (sideN (px l y) (py l y) (px l z) (py l z) (px l n) (py l n)) = askS l y z n := rfl
 have e2 : sg (sideN (px l z) (py l z) (px l x) (py l x) (px l n) (py l n)) = askS l z x n := rfl
 rw [e0] at R0 HA0
 rw [e1] at R1 HA1
 rw [e2] at R2 HA2
 clear e0 e1 e2
 generalize askS l x y n = s0 at *
 generalize askS l y z n = s1 at *
 generalize askS l z x n = s2 at *
 have HAS : Hid (AskAt w B b off cap l) := A
 clear A hnear
 go_enter Tryz.func190, Tryz.ntmps190
 go_wp2
 have hb0 := below2 w (.cells #[.int .i64 (x : Int), .int .i64 (y : Int), .int .i64 (z : Int)] 53) (.cells #[.func (.func 34) #[] #[.pointer (some ⟨B, 0, none⟩)], .func (.func 36) #[] #[.pointer (some ⟨B, 0, none⟩)]] 60)
 have x0 : ((w.alloc (.cells #[.int .i64 (x : Int), .int .i64 (y : Int), .int .i64 (z : Int)] 53)).alloc (.cells #[.func (.func 34) #[] #[.pointer (some ⟨B, 0, none⟩)], .func (.func 36) #[] #[.pointer (some ⟨B, 0, none⟩)]] 60)).heap[w.heap.size]? = some (.cells #[.int .i64 (x : Int), .int .i64 (y : Int), .int .i64 (z : Int)] 53 (0, 0)) := by
  rw [Below.heap_alloc _ _ _ (by simp)]; exact heap_last _ _
 have x1 : ((w.alloc (.cells #[.int .i64 (x : Int), .int .i64 (y : Int), .int .i64 (z : Int)] 53)).alloc (.cells #[.func (.func 34) #[] #[.pointer (some ⟨B, 0, none⟩)], .func (.func 36) #[] #[.pointer (some ⟨B, 0, none⟩)]] 60)).cell? ⟨w.heap.size + 1, 0, none⟩ = some (.func (.func 34) #[] #[.pointer (some ⟨B, 0, none⟩)]) := by
  rw [World.cell?_alloc_at _ _ _ _ (by simp)]; rfl
 have hs0 : ((w.alloc (.cells #[.int .i64 (x : Int), .int .i64 (y : Int), .int .i64 (z : Int)] 53)).alloc (.cells #[.func (.func 34) #[] #[.pointer (some ⟨B, 0, none⟩)], .func (.func 36) #[] #[.pointer (some ⟨B, 0, none⟩)]] 60)).heap.size = w.heap.size + 2 := by simp
 generalize (w.alloc (.cells #[.int .i64 (x : Int), .int .i64 (y : Int), .int .i64 (z : Int)] 53)).alloc (.cells #[.func (.func 34) #[] #[.pointer (some ⟨B, 0, none⟩)], .func (.func 36) #[] #[.pointer (some ⟨B, 0, none⟩)]] 60) = W at *
 have HB0 : Hid (Below w.heap.size w W) := hb0
 have HAW : Hid (AskAt W B b off cap l) := HAS.out.below hb0 (Nat.le_refl _)
 have t0 : W.cell? ⟨w.heap.size, 0, none⟩ = some (.int .i64 (x : Int)) := by simp [World.cell?, x0]
 have t1 : W.cell? ⟨w.heap.size, 1, none⟩ = some (.int .i64 (y : Int)) := by simp [World.cell?, x0]
 have t2 : W.cell? ⟨w.heap.size, 2, none⟩ = some (.int .i64 (z : Int)) := by simp [World.cell?, x0]
 have hxW : w.heap.size < W.heap.size := by omega
 have hyW : w.heap.size + 1 < W.heap.size := by omega
 clear hb0 x0 HAS hs0
 generalize hBX : w.heap.size = BX at *
 go_loopw [7, 12] (fun s7 s12 wr => ∃ (k : Nat) (a : Option Addr) (c : Nat), k ≤ 3 ∧ s12 = .int .i64 k ∧ s7 = .slice a (hK s0 s1 s2 ((x : Int), (y : Int), (z : Int)) k).length c ∧ NumsAt wr a (hK s0 s1 s2 ((x : Int), (y : Int), (z : Int)) k) ∧ (0 < k → 0 ≤ s0) ∧ (1 < k → 0 ≤ s1) ∧ (2 < k → 0 ≤ s2) ∧ Below W.heap.size W wr) (fun _ i _ => 3 - (intOf i).toNat)
 case atStart =>
  refine ⟨0, _, _, by omega, rfl, rfl, fun j hj => ⟨BX, rfl, ?_⟩, by omega, by omega, by omega, Below.refl _ _⟩
  have : j = 0 ∨ j = 1 ∨ j = 2 := by simp [hK] at hj; omega
  rcases this with rfl | rfl | rfl
  ·exact t0
  ·exact t1
  ·exact t2
 case round =>
  obtain ⟨k, a, c, hk, rfl, rfl, hN, g0, g1, g2, hbr⟩ := hrel
  have HN : Hid (NumsAt wr a (hK s0 s1 s2 ((x : Int), (y : Int), (z : Int)) k)) := hN
  have HBr : Hid (Below W.heap.size W wr) := hbr
  have r0 := (hbr.cell (p := ⟨BX, 0, none⟩) hxW).trans t0
  have r1 := (hbr.cell (p := ⟨BX, 1, none⟩) hxW).trans t1
  have r2 := (hbr.cell (p := ⟨BX, 2, none⟩) hxW).trans t2
  have r3 := (hbr.cell (p := ⟨BX + 1, 0, none⟩) hyW).trans x1
  have v0 : BX < wr.heap.size := Nat.lt_of_lt_of_le hxW hbr.size
  have v1 : BX + 1 < wr.heap.size := Nat.lt_of_lt_of_le hyW hbr.size
  have HA : Hid (∀ q, AskAt (wr.drewN q) B b off cap l) := fun q => by
   have := HAW.out.below hbr (Nat.le_refl _)
   exact ⟨this.hB, this.hb, this.cell, this.pts⟩
  clear hN hbr
  have hcs : k = 3 ∨ k = 0 ∨ k = 1 ∨ k = 2 := by omega
  rcases hcs with rfl | rfl | rfl | rfl
  ·skip
   have HE := HHK.out ((x : Int), (y : Int), (z : Int)) (g0 (by omega)) (g1 (by omega)) (g2 (by omega))
   rw [← HE] at HN ⊢
   have HRR : Hid (Below BX w wr) := HB0.out.trans (HBr.out.mono (by omega))
   clear HHK HNEG HE
   generalize hhe : heldB s0 s1 s2 ((x : Int), (y : Int), (z : Int)) = hh at *
   have HHE : Hid (heldB s0 s1 s2 ((x : Int), (y : Int), (z : Int)) = hh) := hhe
   clear hhe
   go_wp2
   go_ret
   rw [hBX]
   exact ⟨a, c, by rw [HHE.out]; rfl, by rw [HHE.out]; exact HN.out, HRR.out⟩
  ·have HK : Hid (hK s0 s1 s2 ((x : Int), (y : Int), (z : Int)) (0 + 1) = if s0 = 0 then [min (x : Int) y, max (x : Int) y] else hK s0 s1 s2 ((x : Int), (y : Int), (z : Int)) 0) := rfl
   by_cases n1 : s0 < 0
   ·have em : s0 = -1 := by omega
    have HE : Hid (heldB s0 s1 s2 ((x : Int), (y : Int), (z : Int)) = []) := HNEG.out _ (by omega)
    have HRR : Hid (Below BX w wr) := HB0.out.trans (HBr.out.mono (by omega))
    subst em
    clear HHK HNEG HK HN
    generalize (hK _ _ _ ((x : Int), (y : Int), (z : Int)) 0).length = hn at *
    go_wp2_with fail
    go_quiet (fail)
    go_wp2_with (first | (go_at_call 34; refine (HA0 _ (HA.out _)).mono ?_; rintro e w1 ⟨rfl, hb1⟩))
    go_ret
    rw [hBX, HE.out]
    exact ⟨_, _, rfl, (fun j hj => by cases hj), HRR.out.trans ((⟨hb1.os, hb1.tape, hb1.output, hb1.size, hb1.block⟩ : Below wr.heap.size wr w1).mono (by omega))⟩
   ·by_cases n2 : s0 = 0
    ·subst n2
     rw [if_pos rfl] at HK
     clear HHK HNEG HN
     generalize (hK _ _ _ ((x : Int), (y : Int), (z : Int)) 0).length = hn at *
     go_wp2_with fail
     go_quiet (fail)
     go_wp2_with (first | (go_at_call 34; refine (HA0 _ (HA.out _)).mono ?_; rintro e w1 ⟨rfl, hb1⟩) | (go_at_call 189; refine (lesser_any _ _ _).mono ?_; rintro e w2 ⟨rfl, hown, hb2⟩))
     have HM : Hid (NumsAt w2 (some ⟨w1.heap.size, 0, none⟩) [min (x : Int) y, max (x : Int) y] ∧ Below W.heap.size W w2) := ⟨nums_two hown, HBr.out.trans (Below.mono (Below.trans (⟨hb1.os, hb1.tape, hb1.output, hb1.size, hb1.block⟩ : Below wr.heap.size wr w1) (hb2.mono hb1.size)) HBr.out.size)⟩
     clear hown hb1 hb2
     go_roundw
     case rel => exact ⟨0 + 1, _, _, by omega, by go_num, by rw [HK.out]; rfl, by rw [HK.out]; exact HM.out.1, by omega, by omega, by omega, HM.out.2⟩
     case measure => simp [intOf]
    ·have ep : s0 = 1 := by omega
     rw [if_neg n2] at HK
     rw [← HK.out] at HN ⊢
     have HG : Hid ((0 < 0 + 1 → 0 ≤ s0) ∧ (1 < 0 + 1 → 0 ≤ s1) ∧ (2 < 0 + 1 → 0 ≤ s2)) := ⟨by omega, by omega, by omega⟩
     clear HHK HNEG HK n1 n2 g0 g1 g2
     generalize hhe : hK s0 s1 s2 ((x : Int), (y : Int), (z : Int)) (0 + 1) = hh at *
     have HHE : Hid (hK s0 s1 s2 ((x : Int), (y : Int), (z : Int)) (0 + 1) = hh) := hhe
     clear hhe
     go_wp2_with fail
     go_quiet (fail)
     go_wp2_with (first | (go_at_call 34; refine (HA0 _ (HA.out _)).mono ?_; rintro e w1 ⟨rfl, hb1⟩))
     have hb1' : Below wr.heap.size wr w1 := ⟨hb1.os, hb1.tape, hb1.output, hb1.size, hb1.block⟩
     go_roundw
     case rel => exact ⟨0 + 1, _, _, by omega, by go_num, by rw [HHE.out], by rw [HHE.out]; exact HN.out.below hb1', HG.out.1, HG.out.2.1, HG.out.2.2, HBr.out.trans (hb1'.mono HBr.out.size)⟩
     case measure => simp [intOf]
  ·have HK : Hid (hK s0 s1 s2 ((x : Int), (y : Int), (z : Int)) (1 + 1) = if s1 = 0 then [min (y : Int) z, max (y : Int) z] else hK s0 s1 s2 ((x : Int), (y : Int), (z : Int)) 1) := rfl
   by_cases n1 : s1 < 0
   ·have em : s1 = -1 := by omega
    have HE : Hid (heldB s0 s1 s2 ((x : Int), (y : Int), (z : Int)) = []) := HNEG.out _ (by omega)
    have HRR : Hid (Below BX w wr) := HB0.out.trans (HBr.out.mono (by omega))
    subst em
    clear HHK HNEG HK HN
    generalize (hK _ _ _ ((x : Int), (y : Int), (z : Int)) 1).length = hn at *
    go_wp2_with fail
    go_quiet (fail)
    go_wp2_with (first | (go_at_call 34; refine (HA1 _ (HA.out _)).mono ?_; rintro e w1 ⟨rfl, hb1⟩))
    go_ret
    rw [hBX, HE.out]
    exact ⟨_, _, rfl, (fun j hj => by cases hj), HRR.out.trans ((⟨hb1.os, hb1.tape, hb1.output, hb1.size, hb1.block⟩ : Below wr.heap.size wr w1).mono (by omega))⟩
   ·by_cases n2 : s1 = 0
    ·subst n2
     rw [if_pos rfl] at HK
     clear HHK HNEG HN
     generalize (hK _ _ _ ((x : Int), (y : Int), (z : Int)) 1).length = hn at *
     go_wp2_with fail
     go_quiet (fail)
     go_wp2_with (first | (go_at_call 34; refine (HA1 _ (HA.out _)).mono ?_; rintro e w1 ⟨rfl, hb1⟩) | (go_at_call 189; refine (lesser_any _ _ _).mono ?_; rintro e w2 ⟨rfl, hown, hb2⟩))
     have HM : Hid (NumsAt w2 (some ⟨w1.heap.size, 0, none⟩) [min (y : Int) z, max (y : Int) z] ∧ Below W.heap.size W w2) := ⟨nums_two hown, HBr.out.trans (Below.mono (Below.trans (⟨hb1.os, hb1.tape, hb1.output, hb1.size, hb1.block⟩ : Below wr.heap.size wr w1) (hb2.mono hb1.size)) HBr.out.size)⟩
     clear hown hb1 hb2
     go_roundw
     case rel => exact ⟨1 + 1, _, _, by omega, by go_num, by rw [HK.out]; rfl, by rw [HK.out]; exact HM.out.1, by omega, by omega, by omega, HM.out.2⟩
     case measure => simp [intOf]
    ·have ep : s1 = 1 := by omega
     rw [if_neg n2] at HK
     rw [← HK.out] at HN ⊢
     have HG : Hid ((0 < 1 + 1 → 0 ≤ s0) ∧ (1 < 1 + 1 → 0 ≤ s1) ∧ (2 < 1 + 1 → 0 ≤ s2)) := ⟨by omega, by omega, by omega⟩
     clear HHK HNEG HK n1 n2 g0 g1 g2
     generalize hhe : hK s0 s1 s2 ((x : Int), (y : Int), (z : Int)) (1 + 1) = hh at *
     have HHE : Hid (hK s0 s1 s2 ((x : Int), (y : Int), (z : Int)) (1 + 1) = hh) := hhe
     clear hhe
     go_wp2_with fail
     go_quiet (fail)
     go_wp2_with (first | (go_at_call 34; refine (HA1 _ (HA.out _)).mono ?_; rintro e w1 ⟨rfl, hb1⟩))
     have hb1' : Below wr.heap.size wr w1 := ⟨hb1.os, hb1.tape, hb1.output, hb1.size, hb1.block⟩
     go_roundw
     case rel => exact ⟨1 + 1, _, _, by omega, by go_num, by rw [HHE.out], by rw [HHE.out]; exact HN.out.below hb1', HG.out.1, HG.out.2.1, HG.out.2.2, HBr.out.trans (hb1'.mono HBr.out.size)⟩
     case measure => simp [intOf]
  ·have HK : Hid (hK s0 s1 s2 ((x : Int), (y : Int), (z : Int)) (2 + 1) = if s2 = 0 then [min (z : Int) x, max (z : Int) x] else hK s0 s1 s2 ((x : Int), (y : Int), (z : Int)) 2) := rfl
   by_cases n1 : s2 < 0
   ·have em : s2 = -1 := by omega
    have HE : Hid (heldB s0 s1 s2 ((x : Int), (y : Int), (z : Int)) = []) := HNEG.out _ (by omega)
    have HRR : Hid (Below BX w wr) := HB0.out.trans (HBr.out.mono (by omega))
    subst em
    clear HHK HNEG HK HN
    generalize (hK _ _ _ ((x : Int), (y : Int), (z : Int)) 2).length = hn at *
    go_wp2_with fail
    go_quiet (fail)
    go_wp2_with (first | (go_at_call 34; refine (HA2 _ (HA.out _)).mono ?_; rintro e w1 ⟨rfl, hb1⟩))
    go_ret
    rw [hBX, HE.out]
    exact ⟨_, _, rfl, (fun j hj => by cases hj), HRR.out.trans ((⟨hb1.os, hb1.tape, hb1.output, hb1.size, hb1.block⟩ : Below wr.heap.size wr w1).mono (by omega))⟩
   ·by_cases n2 : s2 = 0
    ·subst n2
     rw [if_pos rfl] at HK
     clear HHK HNEG HN
     generalize (hK _ _ _ ((x : Int), (y : Int), (z : Int)) 2).length = hn at *
     go_wp2_with fail
     go_quiet (fail)
     go_wp2_with (first | (go_at_call 34; refine (HA2 _ (HA.out _)).mono ?_; rintro e w1 ⟨rfl, hb1⟩) | (go_at_call 189; refine (lesser_any _ _ _).mono ?_; rintro e w2 ⟨rfl, hown, hb2⟩))
     have HM : Hid (NumsAt w2 (some ⟨w1.heap.size, 0, none⟩) [min (z : Int) x, max (z : Int) x] ∧ Below W.heap.size W w2) := ⟨nums_two hown, HBr.out.trans (Below.mono (Below.trans (⟨hb1.os, hb1.tape, hb1.output, hb1.size, hb1.block⟩ : Below wr.heap.size wr w1) (hb2.mono hb1.size)) HBr.out.size)⟩
     clear hown hb1 hb2
     go_roundw
     case rel => exact ⟨2 + 1, _, _, by omega, by go_num, by rw [HK.out]; rfl, by rw [HK.out]; exact HM.out.1, by omega, by omega, by omega, HM.out.2⟩
     case measure => simp [intOf]
    ·have ep : s2 = 1 := by omega
     rw [if_neg n2] at HK
     rw [← HK.out] at HN ⊢
     have HG : Hid ((0 < 2 + 1 → 0 ≤ s0) ∧ (1 < 2 + 1 → 0 ≤ s1) ∧ (2 < 2 + 1 → 0 ≤ s2)) := ⟨by omega, by omega, by omega⟩
     clear HHK HNEG HK n1 n2 g0 g1 g2
     generalize hhe : hK s0 s1 s2 ((x : Int), (y : Int), (z : Int)) (2 + 1) = hh at *
     have HHE : Hid (hK s0 s1 s2 ((x : Int), (y : Int), (z : Int)) (2 + 1) = hh) := hhe
     clear hhe
     go_wp2_with fail
     go_quiet (fail)
     go_wp2_with (first | (go_at_call 34; refine (HA2 _ (HA.out _)).mono ?_; rintro e w1 ⟨rfl, hb1⟩))
     have hb1' : Below wr.heap.size wr w1 := ⟨hb1.os, hb1.tape, hb1.output, hb1.size, hb1.block⟩
     go_roundw
     case rel => exact ⟨2 + 1, _, _, by omega, by go_num, by rw [HHE.out], by rw [HHE.out]; exact HN.out.below hb1', HG.out.1, HG.out.2.1, HG.out.2.2, HBr.out.trans (hb1'.mono HBr.out.size)⟩
     case measure => simp [intOf]
end Go.Proofs.YtgpapegpdfonpaaGreatDoor

namespace Go.Proofs.YtgpapegpdfonpaaGreatDoor
open Go.RowKit
attribute [local go_sem ↓] Go.wp_at_zero Go.wp_at_succ
def TriR (w : World) (a : Option Addr) (ts : List T3) : Prop := ∀ j, j < ts.length → ∃ g, a = some ⟨g, 0, none⟩ ∧ g < w.heap.size ∧ w.cell? ⟨g, j * 3, none⟩ = some (.int .i64 (ts.getD j (0, 0, 0)).1) ∧ w.cell? ⟨g, j * 3 + 1, none⟩ = some (.int .i64 (ts.getD j (0, 0, 0)).2.1) ∧ w.cell? ⟨g, j * 3 + 2, none⟩ = some (.int .i64 (ts.getD j (0, 0, 0)).2.2)
theorem TriR.below {w w' : World} {a : Option Addr} {ts : List T3} (h : TriR w a ts) (hb : Below w.heap.size w w') : TriR w' a ts := fun j hj => by
 obtain ⟨g, e, hg, h0, h1, h2⟩ := h j hj
 exact ⟨g, e, Nat.lt_of_lt_of_le hg hb.size, (hb.cell (p := ⟨g, j * 3, none⟩) hg).trans h0, (hb.cell (p := ⟨g, j * 3 + 1, none⟩) hg).trans h1, (hb.cell (p := ⟨g, j * 3 + 2, none⟩) hg).trans h2⟩
theorem TriR.of_own {w : World} {base c : Nat} {a : Option Addr} {ts : List T3} (h : w.ownsRow base 53 3 (.slice a ts.length c) ts.length (flatT ts)) : TriR w a ts := fun j hj => by
 obtain ⟨g, e, hg, hc⟩ := ownS_place h (by omega)
 have eg : ts.getD j (0, 0, 0) = ts[j] := by simp [hj]
 have f0 := flatT_get ts j 0 (by omega) hj
 have f1 := flatT_get ts j 1 (by omega) hj
 have f2 := flatT_get ts j 2 (by omega) hj
 rw [eg]
 exact ⟨g, e, hg, by rw [hc _ (by omega)]; exact f0, by rw [hc _ (by omega)]; exact f1, by rw [hc _ (by omega)]; exact f2⟩
def heldA (l : List Pt) (n : Nat) (t : T3) : List Int := heldB (askS l t.1.toNat t.2.1.toNat n) (askS l t.2.1.toNat t.2.2.toNat n) (askS l t.2.2.toNat t.1.toNat n) t
def TriH (l : List Pt) (n : Nat) (ts : List T3) (hs : List Int) : Prop := (∃ t ∈ ts, hs = heldA l n t ∧ hs ≠ []) ∨ (hs = [] ∧ ∀ t ∈ ts, heldA l n t = [])
set_option maxRecDepth 100000 in
set_option maxHeartbeats 8000000 in
theorem triH_any (B b off cap : Nat) (l : List Pt) (ta : Option Addr) (tc : Nat) (ts : List T3) (n : Nat) (w : World) (hl : l.length ≤ 61) (htl : ts.length ≤ 4000) (hr : ∀ t ∈ ts, 0 ≤ t.1 ∧ t.1 < l.length ∧ 0 ≤ t.2.1 ∧ t.2.1 < l.length ∧ 0 ≤ t.2.2 ∧ t.2.2 < l.length) (hn : n < l.length)
  (A : AskAt w B b off cap l) (hnear : AllNear l) (hT : TriR w ta ts) :
  Calls Tryz.prog 176 #[.slice ta ts.length tc, .int .i64 (n : Int), askV B] w fun e w' =>
   ∃ a c hs, e = .returned (.slice a hs.length c) ∧ NumsAt w' a hs ∧ TriH l n ts hs ∧ Below w.heap.size w w' := by
 have HR : Hid (∀ t ∈ ts, 0 ≤ t.1 ∧ t.1 < l.length ∧ 0 ≤ t.2.1 ∧ t.2.1 < l.length ∧ 0 ≤ t.2.2 ∧ t.2.2 < l.length) := hr
 have HAS : Hid (AskAt w B b off cap l) := A
 have HNR : Hid (AllNear l) := hnear
 have HT : Hid (TriR w ta ts) := hT
 clear hr A hnear hT
 go_enter Tryz.func176, Tryz.ntmps176
 go_wp2
 have hb0 := below1 w (.cells #[.func (.func 34) #[] #[.pointer (some ⟨B, 0, none⟩)], .func (.func 36) #[] #[.pointer (some ⟨B, 0, none⟩)]] 60)
 have x0 : (w.alloc (.cells #[.func (.func 34) #[] #[.pointer (some ⟨B, 0, none⟩)], .func (.func 36) #[] #[.pointer (some ⟨B, 0, none⟩)]] 60)).cell? ⟨w.heap.size, 0, none⟩ = some (.func (.func 34) #[] #[.pointer (some ⟨B, 0, none⟩)]) := by rw [World.cell?_alloc_at _ _ _ _ (by simp)]; rfl
 have x1 : (w.alloc (.cells #[.func (.func 34) #[] #[.pointer (some ⟨B, 0, none⟩)], .func (.func 36) #[] #[.pointer (some ⟨B, 0, none⟩)]] 60)).cell? ⟨w.heap.size, 1, none⟩ = some (.func (.func 36) #[] #[.pointer (some ⟨B, 0, none⟩)]) := by rw [World.cell?_alloc_at _ _ _ _ (by simp)]; rfl
 have hs0 : (w.alloc (.cells #[.func (.func 34) #[] #[.pointer (some ⟨B, 0, none⟩)], .func (.func 36) #[] #[.pointer (some ⟨B, 0, none⟩)]] 60)).heap.size = w.heap.size + 1 := by simp
 generalize w.alloc (.cells #[.func (.func 34) #[] #[.pointer (some ⟨B, 0, none⟩)], .func (.func 36) #[] #[.pointer (some ⟨B, 0, none⟩)]] 60) = W at *
 have HB0 : Hid (Below w.heap.size w W) := hb0
 have HAW : Hid (AskAt W B b off cap l) := HAS.out.below hb0 (Nat.le_refl _)
 have HTW : Hid (TriR W ta ts) := HT.out.below hb0
 have hxW : w.heap.size < W.heap.size := by omega
 clear hb0 HAS HT hs0
 generalize hBX : w.heap.size = BX at *
 go_loopw [12] (fun s12 wr => ∃ k : Nat, k ≤ ts.length ∧ s12 = .int .i64 k ∧ (∀ j, j < k → heldA l n (ts.getD j (0, 0, 0)) = []) ∧ Below W.heap.size W wr) (fun i _ => ts.length - (intOf i).toNat)
 case atStart => exact ⟨0, Nat.zero_le _, rfl, fun j hj => by omega, Below.refl _ _⟩
 case round =>
  obtain ⟨k, hk, rfl, hno, hbr⟩ := hrel
  have HNO : Hid (∀ j, j < k → heldA l n (ts.getD j (0, 0, 0)) = []) := hno
  have HBr : Hid (Below W.heap.size W wr) := hbr
  clear hno
  by_cases hkl : k < ts.length
  ·obtain ⟨g, rfl, hg, c0, c1, c2⟩ := HTW.out.below hbr k hkl
   have q0 := (hbr.cell (p := ⟨BX, 0, none⟩) hxW).trans x0
   have q1 := (hbr.cell (p := ⟨BX, 1, none⟩) hxW).trans x1
   have hmem : ts.getD k (0, 0, 0) ∈ ts := by
    have : ts.getD k (0, 0, 0) = ts[k] := by simp [hkl]
    rw [this]; exact List.getElem_mem hkl
   have HME : Hid (ts.getD k (0, 0, 0) ∈ ts) := hmem
   obtain ⟨r1, r2, r3, r4, r5, r6⟩ := HR.out _ hmem
   obtain ⟨x, ex⟩ : ∃ x : Nat, (ts.getD k (0, 0, 0)).1 = (x : Int) := ⟨_, (Int.toNat_of_nonneg r1).symm⟩
   obtain ⟨y, ey⟩ : ∃ y : Nat, (ts.getD k (0, 0, 0)).2.1 = (y : Int) := ⟨_, (Int.toNat_of_nonneg r3).symm⟩
   obtain ⟨z, ez⟩ : ∃ z : Nat, (ts.getD k (0, 0, 0)).2.2 = (z : Int) := ⟨_, (Int.toNat_of_nonneg r5).symm⟩
   have HE : Hid (heldA l n (ts.getD k (0, 0, 0)) = heldB (askS l x y n) (askS l y z n) (askS l z x n) ((x : Int), (y : Int), (z : Int))) := by
    unfold Hid heldA
    rw [ex, ey, ez, Int.toNat_natCast, Int.toNat_natCast, Int.toNat_natCast]
    congr 1
    exact Prod.ext ex (Prod.ext ey ez)
   have HC := fun V (hV : Below wr.heap.size wr V) => corners_any B b off cap l x y z n V hl (by omega) (by omega) (by omega) hn ((HAW.out.below hbr (Nat.le_refl _)).below hV (Nat.le_refl _)) HNR.out
   rw [ex] at c0
   rw [ey] at c1
   rw [ez] at c2
   have hbb := below1 wr (.cells #[.int .i64 (x : Int), .int .i64 (y : Int), .int .i64 (z : Int)] 53)
   have HC1 := HC _ hbb
   have y0 : (0 : Int) ≤ (k : Int) := by omega
   have y1 : (k : Int) < (ts.length : Int) := by omega
   have y4 : IntKind.i64.wrap ((k : Int) + 1) = (k : Int) + 1 := wrap_id (by omega) (by omega)
   have hxr : BX < wr.heap.size := Nat.lt_of_lt_of_le hxW hbr.size
   generalize hhe : heldB (askS l x y n) (askS l y z n) (askS l z x n) ((x : Int), (y : Int), (z : Int)) = hh at *
   clear hhe ex ey ez r1 r2 r3 r4 r5 r6 hmem HC hbr
   by_cases h0 : hh = []
   ·have HN1 : Hid (∀ j, j < k + 1 → heldA l n (ts.getD j (0, 0, 0)) = []) := fun j hj => by
     by_cases e : j = k
     ·subst e; rw [HE.out]; exact h0
     ·exact HNO.out j (by omega)
    have e0 : hh.length = 0 := by rw [h0]; rfl
    rw [e0] at HC1
    clear HNO HE h0 e0
    go_wp2_with (first | (go_at_call 190; refine HC1.mono ?_; rintro e w1 ⟨a, c, rfl, hNums, hb1⟩))
    have HR1 : Hid (Below W.heap.size W w1) := HBr.out.trans ((hbb.trans (hb1.mono hbb.size)).mono HBr.out.size)
    go_roundw
    case rel => exact ⟨k + 1, by omega, by go_num, HN1.out, HR1.out⟩
    case measure => simp [intOf]; omega
   ·have hp := List.length_pos_iff.2 h0
    have p1 : (0 : Int) < (hh.length : Int) := by omega
    have HTH : Hid (TriH l n ts hh) := .inl ⟨_, HME.out, HE.out.symm, h0⟩
    clear HNO HE h0
    go_wp2_with (first | (go_at_call 190; refine HC1.mono ?_; rintro e w1 ⟨a, c, rfl, hNums, hb1⟩))
    have HR1 : Hid (NumsAt w1 a hh ∧ Below BX w w1) := ⟨hNums, HB0.out.trans ((HBr.out.trans ((hbb.trans (hb1.mono hbb.size)).mono HBr.out.size)).mono (by omega))⟩
    clear hNums hb1
    go_ret
    rw [hBX]
    exact ⟨a, c, hh, rfl, HR1.out.1, HTH.out, HR1.out.2⟩
  ·have ek : k = ts.length := by omega
   subst ek
   have HTH : Hid (TriH l n ts []) := .inr ⟨rfl, fun t ht => by
     obtain ⟨j, hj, e⟩ := List.getElem_of_mem ht
     have := HNO.out j hj
     have eg : ts.getD j (0, 0, 0) = ts[j] := by simp [hj]
     rw [eg, e] at this; exact this⟩
   have HR1 : Hid (Below BX w wr) := HB0.out.trans (HBr.out.mono (by omega))
   clear HNO hbr
   go_wp2
   go_ret
   rw [hBX]
   exact ⟨none, 0, [], rfl, (fun j hj => by cases hj), HTH.out, HR1.out⟩
def lineH (l : List Pt) (is : List Nat) (i n : Nat) : List Int :=
 if i = 0 ∨ i + 1 = is.length then [] else if askS l (is.getD (i - 1) 0) (is.getD (i + 1) 0) n = 0 then [min ((is.getD (i - 1) 0 : Nat) : Int) ((is.getD (i + 1) 0 : Nat) : Int), max ((is.getD (i - 1) 0 : Nat) : Int) ((is.getD (i + 1) 0 : Nat) : Int)] else []
set_option maxRecDepth 100000 in
set_option maxHeartbeats 8000000 in
theorem lineH_any (B b off cap g ocap : Nat) (l : List Pt) (is : List Nat) (n i : Nat) (w : World) (hl : l.length ≤ 61) (hlen : is.length ≤ 61) (hlt : ∀ x ∈ is, x < l.length) (hi : i < is.length) (hin : is.getD i 0 = n) (hnd : ∀ j, j < i → is.getD j 0 ≠ n) (A : AskAt w B b off cap l) (hnear : AllNear l) (hg : g < w.heap.size) (hns : NatsAt w g 0 is) :
  Calls Tryz.prog 175 #[.slice (some ⟨g, 0, none⟩) is.length ocap, .int .i64 (n : Int), askV B] w fun e w' =>
   ∃ a c, e = .returned (.slice a (lineH l is i n).length c) ∧ NumsAt w' a (lineH l is i n) ∧ Below w.heap.size w w' := by
 have hnl : n < l.length := by rw [← hin]; exact hlt _ (mem_getD hi)
 have hb0 := below1 w (.cells #[.func (.func 34) #[] #[.pointer (some ⟨B, 0, none⟩)], .func (.func 36) #[] #[.pointer (some ⟨B, 0, none⟩)]] 60)
 have x0 : (w.alloc (.cells #[.func (.func 34) #[] #[.pointer (some ⟨B, 0, none⟩)], .func (.func 36) #[] #[.pointer (some ⟨B, 0, none⟩)]] 60)).cell? ⟨w.heap.size, 0, none⟩ = some (.func (.func 34) #[] #[.pointer (some ⟨B, 0, none⟩)]) := by rw [World.cell?_alloc_at _ _ _ _ (by simp)]; rfl
 have HI := nidx_any g ocap is n (w.alloc (.cells #[.func (.func 34) #[] #[.pointer (some ⟨B, 0, none⟩)], .func (.func 36) #[] #[.pointer (some ⟨B, 0, none⟩)]] 60)) (by omega) (Nat.lt_of_lt_of_le hg hb0.size) (hns.below hb0 hg) i hi hin hnd
 have HAW : Hid (AskAt (w.alloc (.cells #[.func (.func 34) #[] #[.pointer (some ⟨B, 0, none⟩)], .func (.func 36) #[] #[.pointer (some ⟨B, 0, none⟩)]] 60)) B b off cap l) := A.below hb0 (Nat.le_refl _)
 have HNW : Hid (NatsAt (w.alloc (.cells #[.func (.func 34) #[] #[.pointer (some ⟨B, 0, none⟩)], .func (.func 36) #[] #[.pointer (some ⟨B, 0, none⟩)]] 60)) g 0 is) := hns.below hb0 hg
 have HNR : Hid (AllNear l) := hnear
 have HLT : Hid (∀ x ∈ is, x < l.length) := hlt
 have HLH : Hid (lineH l is i n = if i = 0 ∨ i + 1 = is.length then [] else if askS l (is.getD (i - 1) 0) (is.getD (i + 1) 0) n = 0 then [min ((is.getD (i - 1) 0 : Nat) : Int) ((is.getD (i + 1) 0 : Nat) : Int), max ((is.getD (i - 1) 0 : Nat) : Int) ((is.getD (i + 1) 0 : Nat) : Int)] else []) := rfl
 have HB0 : Hid (Below w.heap.size w (w.alloc (.cells #[.func (.func 34) #[] #[.pointer (some ⟨B, 0, none⟩)], .func (.func 36) #[] #[.pointer (some ⟨B, 0, none⟩)]] 60))) := hb0
 clear A hnear hns hlt hin hnd hb0
 by_cases h0 : i = 0
 ·subst h0
  rw [if_pos (.inl rfl)] at HLH
  go_enter Tryz.func175, Tryz.ntmps175
  go_wp2_with (first | (go_at_call 188; refine HI.mono ?_; rintro e w1 ⟨rfl, rfl⟩))
  go_ret
  rw [HLH.out]
  exact ⟨none, 0, rfl, (fun j hj => by cases hj), HB0.out⟩
 ·have q0 : ((i : Int) == 0) = false := beq_eq_false_iff_ne.2 (by omega)
  have q0' : ¬ ((i : Int) = 0) := by omega
  have wr1 : IntKind.i64.wrap ((is.length : Int) - 1) = (is.length : Int) - 1 := wrap_id (by omega) (by omega)
  by_cases h1 : i + 1 = is.length
  ·rw [if_pos (.inr h1)] at HLH
   have q1 : ((i : Int) == (is.length : Int) - 1) = true := beq_iff_eq.2 (by omega)
   have q1' : (i : Int) = (is.length : Int) - 1 := by omega
   clear h1
   go_enter Tryz.func175, Tryz.ntmps175
   go_wp2_with (first | (go_at_call 188; refine HI.mono ?_; rintro e w1 ⟨rfl, rfl⟩))
   go_ret
   rw [HLH.out]
   exact ⟨none, 0, rfl, (fun j hj => by cases hj), HB0.out⟩
  ·rw [if_neg (by omega)] at HLH
   have q1 : ((i : Int) == (is.length : Int) - 1) = false := beq_eq_false_iff_ne.2 (by omega)
   have q1' : ¬ ((i : Int) = (is.length : Int) - 1) := by omega
   have hu := HLT.out _ (mem_getD (show i - 1 < is.length by omega))
   have hv := HLT.out _ (mem_getD (show i + 1 < is.length by omega))
   have c1 := HNW.out (i - 1) (by omega)
   have c2 := HNW.out (i + 1) (by omega)
   rw [Nat.zero_add] at c1 c2
   have wr2 : IntKind.i64.wrap ((i : Int) - 1) = ((i - 1 : Nat) : Int) := by rw [wrap_id (by omega) (by omega)]; omega
   have wr3 : IntKind.i64.wrap ((i : Int) + 1) = ((i + 1 : Nat) : Int) := by rw [wrap_id (by omega) (by omega)]; omega
   have p1 : (0 : Int) ≤ ((i - 1 : Nat) : Int) := by omega
   have p2 : ((i - 1 : Nat) : Int) < (is.length : Int) := by omega
   have p3 : (0 : Int) ≤ ((i + 1 : Nat) : Int) := by omega
   have p4 : ((i + 1 : Nat) : Int) < (is.length : Int) := by omega
   generalize hU : i - 1 = iU at *
   generalize hV : i + 1 = iV at *
   generalize is.getD iU 0 = u at *
   generalize is.getD iV 0 = v at *
   go_enter Tryz.func175, Tryz.ntmps175
   go_wp2_with (first | (go_at_call 188; refine HI.mono ?_; rintro e w1 ⟨rfl, rfl⟩))
   generalize w.alloc (.cells #[.func (.func 34) #[] #[.pointer (some ⟨B, 0, none⟩)], .func (.func 36) #[] #[.pointer (some ⟨B, 0, none⟩)]] 60) = W at *
   have hxW : w.heap.size < W.heap.size := cell_blk x0
   have HA := fun q => ask1_any B b off cap l u v n (W.drewN q) hu hv hnl (by omega) HAW.out.hb HAW.out.hB HAW.out.cell HAW.out.pts HNR.out
   rw [show sg (sideN (px l u) (py l u) (px l v) (py l v) (px l n) (py l n)) = askS l u v n from rfl] at HA
   generalize hSS : askS l u v n = S at *
   clear hSS
   by_cases hS : S = 0
   ·subst hS
    rw [if_pos rfl] at HLH
    clear HI
    go_quiet (fail)
    go_wp2_with (first | (go_at_call 34; refine (HA _).mono ?_; rintro e w1 ⟨rfl, hb1⟩) | (go_at_call 189; refine (lesser_any _ _ _).mono ?_; rintro e w2 ⟨rfl, hown, hb2⟩))
    have HR : Hid (NumsAt w2 (some ⟨w1.heap.size, 0, none⟩) [min (u : Int) v, max (u : Int) v] ∧ Below w.heap.size w w2) := ⟨nums_two hown, HB0.out.trans (Below.mono (Below.trans (⟨hb1.os, hb1.tape, hb1.output, hb1.size, hb1.block⟩ : Below W.heap.size W w1) (hb2.mono hb1.size)) HB0.out.size)⟩
    clear hown hb1 hb2
    go_ret
    rw [HLH.out]
    exact ⟨_, _, rfl, HR.out⟩
   ·rw [if_neg hS] at HLH
    have qS : (S != 0) = true := by simpa using hS
    clear HI
    go_quiet (fail)
    go_wp2_with (first | (go_at_call 34; refine (HA _).mono ?_; rintro e w1 ⟨rfl, hb1⟩))
    go_ret
    rw [HLH.out]
    exact ⟨none, 0, rfl, (fun j hj => by cases hj), HB0.out.trans ((⟨hb1.os, hb1.tape, hb1.output, hb1.size, hb1.block⟩ : Below W.heap.size W w1).mono HB0.out.size)⟩
end Go.Proofs.YtgpapegpdfonpaaGreatDoor

namespace Go.Proofs.YtgpapegpdfonpaaGreatDoor
open Go.RowKit
attribute [local go_sem ↓] Go.wp_at_zero Go.wp_at_succ
theorem place_put {W : World} {R : Nat} {a0 a1 a2 a3 : Value} {T : TypeId} (h : W.heap[R]? = some (.cells #[a0, a1, a2, a3] T (0, 0))) (u0 u1 u2 u3 : Value) :
  ∃ X, ((((W.setCell ⟨R, 0, none⟩ u0).setCell ⟨R, 1, none⟩ u1).setCell ⟨R, 2, none⟩ u2).setCell ⟨R, 3, none⟩ u3) = X ∧ X.cell? ⟨R, 0, none⟩ = some u0 ∧ X.cell? ⟨R, 1, none⟩ = some u1 ∧ X.cell? ⟨R, 2, none⟩ = some u2 ∧ X.cell? ⟨R, 3, none⟩ = some u3 ∧ ∀ N, N ≤ R → Below N W X := by
 have k0 := heap_setCell_same W R 0 _ _ u0 h
 have k1 := heap_setCell_same _ R 1 _ _ u1 k0
 have k2 := heap_setCell_same _ R 2 _ _ u2 k1
 have k3 := heap_setCell_same _ R 3 _ _ u3 k2
 refine ⟨_, rfl, ?_, ?_, ?_, ?_, fun N hN => ((((Below.refl N W).setCell (p := ⟨R, 0, none⟩) hN u0).setCell (p := ⟨R, 1, none⟩) hN u1).setCell (p := ⟨R, 2, none⟩) hN u2).setCell (p := ⟨R, 3, none⟩) hN u3⟩ <;> (simp only [World.cell?, k3]; rfl)
def ofK (nums hs : List Int) (k j : Nat) : Int := if j < k then numO nums (hs.getD j (-1)) else -1
set_option maxRecDepth 100000 in
set_option maxHeartbeats 8000000 in
theorem placeOf_any (m : Nat) (pts : List Pt) (nums : List Int) (ever : Nat) (vA vN : Value) (a : Option Addr) (c : Nat) (hs : List Int) (w : World) (H : PRow w m pts nums ever vA vN) (hn60 : nums.length ≤ 60) (hlen : hs.length ≤ 3) (hr : ∀ x ∈ hs, 0 ≤ x ∧ x < nums.length) (hN : NumsAt w a hs) :
  Calls Tryz.prog 152 #[.pointer (some ⟨m, 0, none⟩), .slice a hs.length c] w fun e w' =>
   e = .returned (.agg #[.int .i64 (kindH hs.length), .int .i64 (numO nums (hs.getD 0 (-1))), .int .i64 (numO nums (hs.getD 1 (-1))), .int .i64 (numO nums (hs.getD 2 (-1)))]) ∧ Below w.heap.size w w' := by
 obtain ⟨na, nc, rfl⟩ := ownS_any H.ownN
 have HH : Hid (PRow w m pts nums ever vA (.slice na nums.length nc)) := H
 have HR : Hid (∀ x ∈ hs, 0 ≤ x ∧ x < nums.length) := hr
 have HN : Hid (NumsAt w a hs) := hN
 clear H hr hN
 have y0 : (0 : Int) ≤ (hs.length : Int) := by omega
 have y1 : (hs.length : Int) < 4 := by omega
 go_enter Tryz.func152, Tryz.ntmps152
 go_upto_region 2 with fail
 have hb0 := below2 w (.cells #[.int .i64 0, .int .i64 0, .int .i64 0, .int .i64 0] 155) (.cells #[.int .i64 0, .int .i64 3, .int .i64 2, .int .i64 1] 229)
 have x0 : ((w.alloc (.cells #[.int .i64 0, .int .i64 0, .int .i64 0, .int .i64 0] 155)).alloc (.cells #[.int .i64 0, .int .i64 3, .int .i64 2, .int .i64 1] 229)).cell? ⟨w.heap.size + 1, hs.length, none⟩ = some (.int .i64 (kindH hs.length)) := by
  rw [World.cell?_alloc_at _ _ _ _ (by simp)]
  have hcs : hs.length = 0 ∨ hs.length = 1 ∨ hs.length = 2 ∨ hs.length = 3 := by omega
  rcases hcs with h | h | h | h <;> rw [h] <;> rfl
 have x1 : ((w.alloc (.cells #[.int .i64 0, .int .i64 0, .int .i64 0, .int .i64 0] 155)).alloc (.cells #[.int .i64 0, .int .i64 3, .int .i64 2, .int .i64 1] 229)).heap[w.heap.size]? = some (.cells #[.int .i64 0, .int .i64 0, .int .i64 0, .int .i64 0] 155 (0, 0)) := by
  rw [Below.heap_alloc _ _ _ (by simp)]; exact heap_last _ _
 have hs0 : ((w.alloc (.cells #[.int .i64 0, .int .i64 0, .int .i64 0, .int .i64 0] 155)).alloc (.cells #[.int .i64 0, .int .i64 3, .int .i64 2, .int .i64 1] 229)).heap.size = w.heap.size + 2 := by simp
 generalize (w.alloc (.cells #[.int .i64 0, .int .i64 0, .int .i64 0, .int .i64 0] 155)).alloc (.cells #[.int .i64 0, .int .i64 3, .int .i64 2, .int .i64 1] 229) = W at *
 have HB0 : Hid (Below w.heap.size w W) := hb0
 have HHW : Hid (PRow W m pts nums ever vA (.slice na nums.length nc)) := HH.out.below hb0
 have HNW : Hid (NumsAt W a hs) := HN.out.below hb0
 clear hb0 HH HN
 go_wp2_with fail
 have hb1 := below1 W (.cells #[.int .i64 (kindH hs.length), .int .i64 (-1), .int .i64 (-1), .int .i64 (-1)] 155)
 have z0 : (W.alloc (.cells #[.int .i64 (kindH hs.length), .int .i64 (-1), .int .i64 (-1), .int .i64 (-1)] 155)).heap[w.heap.size + 2]? = some (.cells #[.int .i64 (kindH hs.length), .int .i64 (ofK nums hs 0 0), .int .i64 (ofK nums hs 0 1), .int .i64 (ofK nums hs 0 2)] 155 (0, 0)) := by
  rw [← hs0]; exact heap_last _ _
 have hs1 : (W.alloc (.cells #[.int .i64 (kindH hs.length), .int .i64 (-1), .int .i64 (-1), .int .i64 (-1)] 155)).heap.size = w.heap.size + 3 := by simp; omega
 have HB1 : Hid (Below (w.heap.size + 2) W (W.alloc (.cells #[.int .i64 (kindH hs.length), .int .i64 (-1), .int .i64 (-1), .int .i64 (-1)] 155))) := by rw [← hs0]; exact hb1
 generalize W.alloc (.cells #[.int .i64 (kindH hs.length), .int .i64 (-1), .int .i64 (-1), .int .i64 (-1)] 155) = U at *
 clear hb1 x0
 obtain ⟨kd, hkd⟩ : ∃ kd, kindH hs.length = kd := ⟨_, rfl⟩
 have HKD : Hid (kindH hs.length = kd) := hkd
 rw [hkd] at z0 ⊢
 clear hkd
 generalize hPB : w.heap.size + 2 = PB at *
 go_loopw [18] (fun s18 wr => ∃ k : Nat, k ≤ hs.length ∧ s18 = .int .i64 k ∧ wr.heap[PB]? = some (.cells #[.int .i64 kd, .int .i64 (ofK nums hs k 0), .int .i64 (ofK nums hs k 1), .int .i64 (ofK nums hs k 2)] 155 (0, 0)) ∧ Below PB U wr) (fun i _ => hs.length - (intOf i).toNat)
 case atStart => exact ⟨0, Nat.zero_le _, rfl, z0, Below.refl _ _⟩
 case round =>
  obtain ⟨k, hk, rfl, hp, hbr⟩ := hrel
  have hBW : Below PB W wr := HB1.out.trans hbr
  have HBW : Hid (Below PB W wr) := hBW
  have HHr := HHW.out.below (hBW.mono (by omega))
  by_cases hkl : k < hs.length
  ·obtain ⟨G, rfl, cH⟩ := HNW.out.below (hBW.mono (by omega)) k hkl
   have hmem : hs.getD k 0 ∈ hs := getD_mem hkl
   obtain ⟨r1, r2⟩ := HR.out _ hmem
   obtain ⟨q, eq⟩ : ∃ q : Nat, hs.getD k 0 = (q : Int) := ⟨_, (Int.toNat_of_nonneg r1).symm⟩
   rw [eq] at cH r2
   obtain ⟨G2, rfl, cN⟩ := NumsAt.of_own HHr.ownN q (by omega)
   have c1 := HHr.cells.2.1
   have HV : Hid (numO nums (hs.getD k (-1)) = nums.getD q 0) := by
    have e : hs.getD k (-1) = hs.getD k 0 := by simp [hkl]
    unfold Hid numO
    rw [e, eq, if_pos (by omega), Int.toNat_natCast]
   have HOK : Hid (∀ j, j < 3 → ofK nums hs (k + 1) j = if j = k then nums.getD q 0 else ofK nums hs k j) := fun j _ => by
    unfold ofK
    by_cases e : j = k
    ·subst e; rw [if_pos (by omega), if_pos rfl, HV.out]
    ·rw [if_neg e]
     by_cases h : j < k
     ·rw [if_pos (by omega), if_pos h]
     ·rw [if_neg (by omega), if_neg h]
   have y0 : (0 : Int) ≤ (k : Int) := by omega
   have y1 : (k : Int) < (hs.length : Int) := by omega
   have y2 : (0 : Int) ≤ (q : Int) := by omega
   have y3 : (q : Int) < (nums.length : Int) := by omega
   have y5 : (k : Int) < 3 := by omega
   have y4 : IntKind.i64.wrap ((k : Int) + 1) = (k : Int) + 1 := wrap_id (by omega) (by omega)
   have pc : ∀ j, wr.frozen? ⟨PB, j, none⟩ = false := fun j => by simp [World.frozen?, hp]
   have HP : Hid (wr.heap[PB]? = some (.cells #[.int .i64 kd, .int .i64 (ofK nums hs k 0), .int .i64 (ofK nums hs k 1), .int .i64 (ofK nums hs k 2)] 155 (0, 0))) := hp
   have HBR : Hid (Below PB U wr) := hbr
   clear hmem r1 r2 eq HV hbr hBW HHr
   generalize nums.getD q 0 = vn at *
   have hcs : k = 0 ∨ k = 1 ∨ k = 2 := by omega
   rcases hcs with rfl | rfl | rfl
   ·have p0 : wr.cell? ⟨PB, 1, none⟩ = some (.int .i64 (ofK nums hs 0 0)) := by simp [World.cell?, hp]
    have pf := pc 1
    have st := heap_setCell_same wr PB 1 _ _ (.int .i64 vn) HP.out
    have HST : Hid ((wr.setCell ⟨PB, 1, none⟩ (.int .i64 vn)).heap[PB]? = some (.cells #[.int .i64 kd, .int .i64 (ofK nums hs (0 + 1) 0), .int .i64 (ofK nums hs (0 + 1) 1), .int .i64 (ofK nums hs (0 + 1) 2)] 155 (0, 0)) ∧ Below PB U (wr.setCell ⟨PB, 1, none⟩ (.int .i64 vn))) := by
     refine ⟨?_, HBR.out.setCell (Nat.le_refl _) _⟩
     rw [HOK.out 0 (by omega), HOK.out 1 (by omega), HOK.out 2 (by omega), st]
     rfl
    clear st HP HOK hp pc HBR
    generalize ofK nums hs 0 0 = ov at *
    go_wp2
    go_roundw
    case rel => exact ⟨0 + 1, by omega, by go_num, HST.out.1, HST.out.2⟩
    case measure => simp [intOf]; omega
   ·have p0 : wr.cell? ⟨PB, 2, none⟩ = some (.int .i64 (ofK nums hs 1 1)) := by simp [World.cell?, hp]
    have pf := pc 2
    have st := heap_setCell_same wr PB 2 _ _ (.int .i64 vn) HP.out
    have HST : Hid ((wr.setCell ⟨PB, 2, none⟩ (.int .i64 vn)).heap[PB]? = some (.cells #[.int .i64 kd, .int .i64 (ofK nums hs (1 + 1) 0), .int .i64 (ofK nums hs (1 + 1) 1), .int .i64 (ofK nums hs (1 + 1) 2)] 155 (0, 0)) ∧ Below PB U (wr.setCell ⟨PB, 2, none⟩ (.int .i64 vn))) := by
     refine ⟨?_, HBR.out.setCell (Nat.le_refl _) _⟩
     rw [HOK.out 0 (by omega), HOK.out 1 (by omega), HOK.out 2 (by omega), st]
     rfl
    clear st HP HOK hp pc HBR
    generalize ofK nums hs 1 1 = ov at *
    go_wp2
    go_roundw
    case rel => exact ⟨1 + 1, by omega, by go_num, HST.out.1, HST.out.2⟩
    case measure => simp [intOf]; omega
   ·have p0 : wr.cell? ⟨PB, 3, none⟩ = some (.int .i64 (ofK nums hs 2 2)) := by simp [World.cell?, hp]
    have pf := pc 3
    have st := heap_setCell_same wr PB 3 _ _ (.int .i64 vn) HP.out
    have HST : Hid ((wr.setCell ⟨PB, 3, none⟩ (.int .i64 vn)).heap[PB]? = some (.cells #[.int .i64 kd, .int .i64 (ofK nums hs (2 + 1) 0), .int .i64 (ofK nums hs (2 + 1) 1), .int .i64 (ofK nums hs (2 + 1) 2)] 155 (0, 0)) ∧ Below PB U (wr.setCell ⟨PB, 3, none⟩ (.int .i64 vn))) := by
     refine ⟨?_, HBR.out.setCell (Nat.le_refl _) _⟩
     rw [HOK.out 0 (by omega), HOK.out 1 (by omega), HOK.out 2 (by omega), st]
     rfl
    clear st HP HOK hp pc HBR
    generalize ofK nums hs 2 2 = ov at *
    go_wp2
    go_roundw
    case rel => exact ⟨2 + 1, by omega, by go_num, HST.out.1, HST.out.2⟩
    case measure => simp [intOf]; omega
  ·have ek : k = hs.length := by omega
   subst ek
   have HOF : Hid (∀ j, ofK nums hs hs.length j = numO nums (hs.getD j (-1))) := fun j => by
    unfold ofK
    by_cases h : j < hs.length
    ·rw [if_pos h]
    ·rw [if_neg h]
     have : hs.getD j (-1) = -1 := by simp [Nat.le_of_not_lt h]
     rw [this]; rfl
   have hq : wr.heap[w.heap.size]? = some (.cells #[.int .i64 0, .int .i64 0, .int .i64 0, .int .i64 0] 155 (0, 0)) := by rw [hBW.block _ (by omega)]; exact x1
   obtain ⟨a0, a1, a2, a3⟩ : wr.cell? ⟨PB, 0, none⟩ = some (.int .i64 kd) ∧ wr.cell? ⟨PB, 1, none⟩ = some (.int .i64 (ofK nums hs hs.length 0)) ∧ wr.cell? ⟨PB, 2, none⟩ = some (.int .i64 (ofK nums hs hs.length 1)) ∧ wr.cell? ⟨PB, 3, none⟩ = some (.int .i64 (ofK nums hs hs.length 2)) := by simp [World.cell?, hp]
   obtain ⟨b0, b1, b2, b3⟩ : wr.cell? ⟨w.heap.size, 0, none⟩ = some (.int .i64 0) ∧ wr.cell? ⟨w.heap.size, 1, none⟩ = some (.int .i64 0) ∧ wr.cell? ⟨w.heap.size, 2, none⟩ = some (.int .i64 0) ∧ wr.cell? ⟨w.heap.size, 3, none⟩ = some (.int .i64 0) := by simp [World.cell?, hq]
   have f0 : wr.frozen? ⟨w.heap.size, 0, none⟩ = false := by simp [World.frozen?, hq]
   have f1 : wr.frozen? ⟨w.heap.size, 1, none⟩ = false := by simp [World.frozen?, hq]
   have f2 : wr.frozen? ⟨w.heap.size, 2, none⟩ = false := by simp [World.frozen?, hq]
   have f3 : wr.frozen? ⟨w.heap.size, 3, none⟩ = false := by simp [World.frozen?, hq]
   have HBF : Hid (Below w.heap.size w wr) := HB0.out.trans (HBW.out.mono (by omega))
   rw [HOF.out 0] at a1
   rw [HOF.out 1] at a2
   rw [HOF.out 2] at a3
   generalize ho0 : numO nums (hs.getD 0 (-1)) = o0 at *
   generalize ho1 : numO nums (hs.getD 1 (-1)) = o1 at *
   generalize ho2 : numO nums (hs.getD 2 (-1)) = o2 at *
   have HO0 : Hid (numO nums (hs.getD 0 (-1)) = o0) := ho0
   have HO1 : Hid (numO nums (hs.getD 1 (-1)) = o1) := ho1
   have HO2 : Hid (numO nums (hs.getD 2 (-1)) = o2) := ho2
   clear ho0 ho1 ho2
   obtain ⟨X, hX, z0, z1, z2, z3, hbX⟩ := place_put hq (.int .i64 kd) (.int .i64 o0) (.int .i64 o1) (.int .i64 o2)
   have HBX : Hid (Below w.heap.size w X) := HBF.out.trans (hbX w.heap.size (Nat.le_refl _))
   clear hp hq HHr hbr hBW HOF hbX
   go_wp2
   refine bodyPost_ret (v := .agg #[.int .i64 kd, .int .i64 o0, .int .i64 o1, .int .i64 o2]) (by simp [results, Tryz.results152, go_sem, z0, z1, z2, z3]) rfl ⟨?_, HBX.out⟩
   rw [HKD.out, HO0.out, HO1.out, HO2.out]
set_option maxRecDepth 100000 in
set_option maxHeartbeats 4000000 in
theorem pclone_any (a : Option Addr) (c : Nat) (pts : List Pt) (w : World) (hl : pts.length ≤ 60) (h : w.ownsRow 0 37 2 (.slice a pts.length c) pts.length (cellsP pts)) :
  Calls Tryz.prog 174 #[.slice a pts.length c] w fun e w' => ∃ v, e = .returned v ∧ w'.ownsRow w.heap.size 37 2 v pts.length (cellsP pts) ∧ Below w.heap.size w w' := by
 obtain ⟨iP, hiP, hzP, hsP, hbP⟩ := info_parts infoPt
 have hq0 : ∀ w, (binOp .eql 41 (.slice none 0 0) (.slice none 0 0)).run Tryz.prog w = .ok (.bool true) w := fun w => Lib.run_eql_slice_nil w _ _ none 0 0 0 0 Tryz.underlying41
 rcases h.2 with ⟨e, h0⟩ | ⟨g, cap, cur, e, _, hg, hnc, hcm, hcs, htk⟩
 ·have hp : pts = [] := List.length_eq_zero_iff.1 h0
  subst hp
  rw [e]
  clear h e
  go_enter Tryz.func174, Tryz.ntmps174
  go_wp2
  go_ret
  exact ⟨_, rfl, ⟨rfl, .inl ⟨rfl, rfl⟩⟩, Below.refl _ _⟩
 ·cases e
  have hq : ∀ w n, (binOp .eql 41 (.slice (some ⟨g, 0, none⟩) n c) (.slice none 0 0)).run Tryz.prog w = .ok (.bool false) w := fun w n => Lib.run_eql_slice_nil w _ _ (some ⟨g, 0, none⟩) n c 0 0 Tryz.underlying41
  have hcell : ∀ j u, (cellsP pts)[j]? = some u → w.cell? ⟨g, j, none⟩ = some u := fun j u hu => by
   have hj := (List.getElem?_eq_some_iff.1 hu).1
   rw [h.cellAt j (by rw [cellsP_len] at hj; exact hj)]; exact hu
  have hgl : g < w.heap.size := lt_some hg
  by_cases hp : pts = []
  ·subst hp
   clear h htk hcell
   go_enter Tryz.func174, Tryz.ntmps174
   go_wp2
   go_ret
   exact ⟨_, rfl, ⟨rfl, .inr ⟨_, 0, _, rfl, Nat.le_refl _, heap_last _ _, Nat.le_refl _, Nat.zero_le _, rfl, rfl⟩⟩, below1 _ _⟩
  ·have hl0 := List.length_pos_iff.2 hp
   clear h
   go_enter Tryz.func174, Tryz.ntmps174
   go_wp2_with (at_builtin; refine wpList_append_where _ (by rfl) (.tmp 5) (.tmp 6) 41 (by rfl) w.heap.size 37 iP (.agg #[.int .i64 0, .int .i64 0]) 2 16 Tryz.underlying41 hiP hzP hsP hbP rfl (by decide) _ 0 [] (by rfl) (show _ from ⟨rfl, .inr ⟨w.heap.size, 0, #[], rfl, Nat.le_refl _, heap_last _ _, Nat.le_refl _, Nat.zero_le _, rfl, rfl⟩⟩) ⟨g, 0, none⟩ pts.length c (cellsP pts) (by rfl) ?c0 ?c1 ?c2 hl0 ?c3 ?c4 ?c5 (w.heap.size + 1) ?c6 ?_)
   case c0 => exact cellsP_len pts
   case c1 =>
    intro j u hj
    rw [Addr.add_lit, Nat.zero_add, World.cell?_alloc_past _ _ _ hgl]
    exact hcell j u hj
   case c2 =>
    intro u hu
    unfold cellsP at hu
    obtain ⟨p, _, hp⟩ := List.mem_flatMap.1 hu
    simp at hp
    rcases hp with rfl | rfl <;> rfl
   case c3 => unfold maxLen; omega
   case c4 => omega
   case c5 => simp
   case c6 => simp
   ·intro g2 cap2 w3 hown3 hat hlt3
    have HR : Hid (w3.ownsRow w.heap.size 37 2 (.slice (some ⟨g2, 0, none⟩) pts.length cap2) pts.length (cellsP pts) ∧ Below w.heap.size w w3) := by
     refine ⟨hown3, ?_⟩
     have hb1 := below1 w (.cells #[] 37)
     rcases hat with ⟨e, hgr⟩ | ⟨e, hgr⟩
     ·cases e
      exact hb1.trans ⟨hgr.os, hgr.tape, hgr.output, hgr.size, fun k hk => hgr.block k (by simp; omega) (fun e => by cases e; exact Nat.lt_irrefl _ hk)⟩
     ·exact hb1.trans ⟨hgr.os, hgr.tape, hgr.output, hgr.size, fun k hk => hgr.block k (by simp; omega) (fun e => by cases e)⟩
    clear hown3 hat
    go_wp2
    go_ret
    exact ⟨_, rfl, HR.out⟩
end Go.Proofs.YtgpapegpdfonpaaGreatDoor

namespace Go.Proofs.YtgpapegpdfonpaaGreatDoor
open Go.RowKit
attribute [local go_sem ↓] Go.wp_at_zero Go.wp_at_succ
set_option maxRecDepth 100000 in
set_option maxHeartbeats 4000000 in
theorem ptris_any (m : Nat) (pts : List Pt) (nums : List Int) (ever : Nat) (vA vN : Value) (w : World) (H : PRow w m pts nums ever vA vN) (hOk : MOk pts nums ever) :
  Calls Tryz.prog 151 #[.pointer (some ⟨m, 0, none⟩)] w fun e w' =>
   ∃ v ts, e = .returned v ∧ w'.ownsRow w.heap.size 53 3 v ts.length (flatT ts) ∧ TriSpec pts ts ∧ ts.length ≤ 4000 ∧ Below w.heap.size w w' := by
 obtain ⟨pa, pc, rfl⟩ := ownS_any H.ownA
 have HNEAR : Hid (AllNear pts) := hOk.near
 have HND : Hid (pts.Nodup) := hOk.nd
 have hle := hOk.le
 have c0 := H.cells.1
 have hm := H.lt
 by_cases h0 : pts = []
 ·subst h0
  clear H hOk
  go_enter Tryz.func151, Tryz.ntmps151
  go_wp2_with fail
  go_region_held3 (fun w' => Below w.heap.size w w' ∧ ∀ b o, b < w.heap.size → w'.cell? ⟨b, o, none⟩ = w.cell? ⟨b, o, none⟩) (first | exact keep0 _ | exact keep1 (by assumption) hb1)
   (first
     | (go_at_call 28; refine (order_none _ _ _).mono ?_; rintro e w2 ⟨g, rfl, hg, hgs, hb1⟩)
     | (go_at_call 17; refine (askOf_any _ _ _ _).mono ?_; rintro e w3 ⟨B, hB1, hB2, hcB, rfl, hb1⟩)
     | (go_at_call 27; refine (tris_none _ _ _ _).mono ?_; rintro e w4 ⟨rfl, hb1⟩))
  rename_i hS
  have HB : Hid (Below w.heap.size w w4) := hS.1
  clear hS
  go_wp2
  go_ret
  exact ⟨_, [], rfl, ⟨rfl, .inl ⟨rfl, rfl⟩⟩, ⟨[], ⟨List.Perm.refl _, (fun i j _ h => by cases h)⟩, .inl ⟨(fun j _ h => by cases h), rfl⟩⟩, by simp, HB.out⟩
 ·obtain ⟨n, hn⟩ : ∃ n, pts.length = n + 1 := ⟨pts.length - 1, by have := List.length_pos_iff.2 h0; omega⟩
  obtain ⟨b, off, rfl, hb, hp⟩ : ∃ b off, pa = some ⟨b, off, none⟩ ∧ b < w.heap.size ∧ PtsAt w b off pts := (RowP.raw' H.ownA).resolve_left h0
  have HP : Hid (PtsAt w b off pts) := hp
  have HO := order_any b off pc pts n w.drew hn hle hb hp
  have HC : ∀ B g is W, InOrder pts is → AskAt W B b off pc pts → g < W.heap.size → NatsAt W g 0 is → Calls Tryz.prog 27 #[.slice (some ⟨g, 0, none⟩) pts.length pts.length, askV B] W _ := fun B g is W hio A hg his => by
   have := tris_any B b off pc g pts.length pts is W hle hio HND.out A HNEAR.out hg his
   rw [hio.len] at this
   exact this
  clear H hOk hp hn h0
  go_enter Tryz.func151, Tryz.ntmps151
  go_wp2_with fail
  go_region_held3 (fun w' => Below w.heap.size w w' ∧ ∀ b o, b < w.heap.size → w'.cell? ⟨b, o, none⟩ = w.cell? ⟨b, o, none⟩) (first | exact keep0 _ | exact keep1 (by assumption) hb1)
   (first
     | (go_at_call 28; refine HO.mono ?_; rintro e w2 ⟨g, is, rfl, hg, hgs, hb1, hns, hfz, hio⟩
        have hbO : Below w.heap.size w w2 := ⟨hb1.os, hb1.tape, hb1.output, hb1.size, hb1.block⟩)
     | (go_at_call 17; refine (askOf_any _ _ _ _).mono ?_; rintro e w3 ⟨B, hB1, hB2, hcB, rfl, hb1⟩
        have hbA := hb1
        have hW3 : Below w.heap.size w w3 := hbO.trans (hb1.mono hbO.size)
        have HA : Hid (AskAt w3 B b off pc pts) := ⟨hB2, Nat.lt_of_lt_of_le hb hW3.size, hcB, HP.out.below hW3 hb⟩
        have HNS : Hid (NatsAt w3 g 0 is) := hns.below hbA hgs
        have hg3 : g < w3.heap.size := Nat.lt_of_lt_of_le hgs hbA.size)
     | (go_at_call 27; refine (HC B g is _ hio HA.out hg3 HNS.out).mono ?_; rintro e w4 ⟨v, ts, rfl, hown, hspec, hlen, hb1⟩))
  rename_i hS
  have HR : Hid (w4.ownsRow w.heap.size 53 3 v ts.length (flatT ts) ∧ TriSpec pts ts ∧ ts.length ≤ 4000 ∧ Below w.heap.size w w4) := ⟨ownS_mono hown hW3.size, hspec, hlen, hS.1⟩
  clear hS hown hspec hlen hb1 hcB hns hfz hio HC HO
  go_wp2
  go_ret
  exact ⟨v, ts, rfl, HR.out⟩
theorem near_best (l : List Pt) (p : Pt) (hn : AllNear l) (hp : Near p.1 p.2) {k : Nat} (hk : k < l.length) (h0 : 0 < k) : bestW l p (k + 1) = if dst (ptAt l k) p < dst (pOf l (bestW l p k)) p then (k : Int) else bestW l p k := by
 obtain ⟨g0, g1⟩ := bestW_bd l p k h0
 have n1 : Near (ptAt l k).1 (ptAt l k).2 := hn k hk
 have n2 : Near (pOf l (bestW l p k)).1 (pOf l (bestW l p k)).2 := hn (bestW l p k).toNat (by omega)
 rw [bestW, dW_near n1 hp, dW_near n2 hp]
 by_cases h : dst (ptAt l k) p < dst (pOf l (bestW l p k)) p
 ·rw [if_pos h, if_pos (.inr h)]
 ·rw [if_neg h, if_neg (by omega)]
def NearP' (pts : List Pt) (nums : List Int) (p : Pt) (n e : Int) : Prop :=
 (farB p.1 p.2 = true ∧ n = 0 ∧ e = 1) ∨ (farB p.1 p.2 = false ∧ pts = [] ∧ n = 0 ∧ e = 4) ∨ (farB p.1 p.2 = false ∧ pts ≠ [] ∧ e = 0 ∧ n = numO nums (bestW pts p pts.length))
theorem pts1' (w : World) (o : Obj) (ax ay : Int) (T : TypeId) : PtsAt ((w.alloc o).alloc (.cells #[.int .i64 ax, .int .i64 ay] T)) (w.heap.size + 1) 0 [(ax, ay)] := by
 intro j hj
 have hj : j = 0 := by simp at hj; omega
 subst hj
 rw [World.cell?_alloc_at _ _ _ _ (by simp), World.cell?_alloc_at _ _ _ _ (by simp)]
 exact ⟨rfl, rfl⟩
theorem anyFar1' (ax ay : Int) : anyFarB [(ax, ay)] = farB ax ay := by simp [anyFarB]
set_option maxRecDepth 100000 in
set_option maxHeartbeats 8000000 in
theorem pnear_any (m : Nat) (pts : List Pt) (nums : List Int) (ever : Nat) (vA vN : Value) (px py : Int) (w : World) (H : PRow w m pts nums ever vA vN) (hOk : MOk pts nums ever) :
  Calls Tryz.prog 104 #[.pointer (some ⟨m, 0, none⟩), .agg #[.int .i64 px, .int .i64 py]] w fun e w' => ∃ n r, e = .returned (.tuple #[.int .i64 n, .int .i64 r]) ∧ NearP' pts nums (px, py) n r ∧ Below w.heap.size w w' := by
 have hle := hOk.le
 have hn60 : nums.length ≤ 60 := by have := hOk.len; omega
 have HLN : Hid (pts.length = nums.length) := hOk.len
 have HNEAR : Hid (AllNear pts) := hOk.near
 have hb0 := below2 w (.cells #[.int .i64 px, .int .i64 py] 37) (.cells #[.int .i64 px, .int .i64 py] 37)
 have HP1 : Hid (PtsAt ((w.alloc (.cells #[.int .i64 px, .int .i64 py] 37)).alloc (.cells #[.int .i64 px, .int .i64 py] 37)) (w.heap.size + 1) 0 [(px, py)]) := pts1' _ _ _ _ _
 obtain ⟨pa, pc, rfl⟩ := ownS_any H.ownA
 obtain ⟨na, nc, rfl⟩ := ownS_any H.ownN
 have HH : Hid (PRow w m pts nums ever (.slice pa pts.length pc) (.slice na nums.length nc)) := H
 cases hfar : farB px py with
 | true =>
  have HI : Hid (farB px py = true) := hfar
  clear H hOk
  go_enter Tryz.func104, Tryz.ntmps104
  go_wp2_with (go_at_call 16; refine (anyFar_any _ 0 1 [(px, py)] _ (by simp) (by simp) HP1.out).mono ?_; rintro e w1 ⟨rfl, hb1⟩; rw [anyFar1', hfar])
  go_ret2
  exact ⟨0, 1, rfl, .inl ⟨HI.out, rfl, rfl⟩, hb0.trans (hb1.mono hb0.size)⟩
 | false =>
  have x0 : ((w.alloc (.cells #[.int .i64 px, .int .i64 py] 37)).alloc (.cells #[.int .i64 px, .int .i64 py] 37)).cell? ⟨w.heap.size, 0, none⟩ = some (.int .i64 px) := by
   rw [World.cell?_alloc_past _ _ _ (by simp), World.cell?_alloc_at _ _ _ _ (by simp)]; rfl
  have x1 : ((w.alloc (.cells #[.int .i64 px, .int .i64 py] 37)).alloc (.cells #[.int .i64 px, .int .i64 py] 37)).cell? ⟨w.heap.size, 1, none⟩ = some (.int .i64 py) := by
   rw [World.cell?_alloc_past _ _ _ (by simp), World.cell?_alloc_at _ _ _ _ (by simp)]; rfl
  have HPN : Hid (Near px py) := farB_near hfar
  have HF : Hid (farB px py = false) := hfar
  go_enter Tryz.func104, Tryz.ntmps104
  go_upto_region 3 with (go_at_call 16; refine (anyFar_any _ 0 1 [(px, py)] _ (by simp) (by simp) HP1.out).mono ?_; rintro e w1 ⟨rfl, hb1⟩; rw [anyFar1', hfar])
  have hsz1 : w.heap.size + 2 ≤ w1.heap.size := by have := hb1.size; simp at this; omega
  have z0 := (hb1.cell (p := ⟨w.heap.size, 0, none⟩) (by simp; omega)).trans x0
  have z1 := (hb1.cell (p := ⟨w.heap.size, 1, none⟩) (by simp; omega)).trans x1
  have hbw : Below w.heap.size w w1 := hb0.trans (hb1.mono hb0.size)
  have H1 := H.below hbw
  have HBW : Hid (Below w.heap.size w w1) := hbw
  have HH1 : Hid (PRow w1 m pts nums ever (.slice pa pts.length pc) (.slice na nums.length nc)) := H1
  have c0 := H1.cells.1
  have hm1 := H1.lt
  have hx1 : w.heap.size < w1.heap.size := by omega
  clear x0 x1 hb1 hb0 HP1 H H1 hbw hOk hfar HH
  generalize hBX : w.heap.size = BX at *
  by_cases hp0 : pts = []
  ·subst hp0
   go_wp2
   go_ret2
   rw [hBX]
   exact ⟨0, 4, rfl, .inr (.inl ⟨HF.out, rfl, rfl, rfl⟩), HBW.out⟩
  ·have hl0 := List.length_pos_iff.2 hp0
   have q0 : ((pts.length : Int) == 0) = false := beq_eq_false_iff_ne.2 (by omega)
   obtain ⟨b, off, rfl, hb, hp⟩ : ∃ b off, pa = some ⟨b, off, none⟩ ∧ b < w1.heap.size ∧ PtsAt w1 b off pts := (RowP.raw' HH1.out.ownA).resolve_left hp0
   have HPT : Hid (PtsAt w1 b off pts) := hp
   have HP0 : Hid (pts ≠ []) := hp0
   clear hp hp0
   go_wp2_with fail
   go_loopw [6, 25] (fun s6 s25 wr => ∃ k : Nat, k ≤ pts.length ∧ s25 = .int .i64 k ∧ s6 = .int .i64 (if k = 0 then 0 else bestW pts (px, py) k) ∧ Below w1.heap.size w1 wr) (fun _ i _ => pts.length - (intOf i).toNat)
   case atStart => exact ⟨0, Nat.zero_le _, rfl, rfl, Below.refl _ _⟩
   case round =>
    obtain ⟨k, hk, rfl, rfl, hbr⟩ := hrel
    have d0 := (hbr.cell (p := ⟨m, 0, none⟩) hm1).trans c0
    have hmr : m < wr.heap.size := Nat.lt_of_lt_of_le hm1 hbr.size
    by_cases hkl : k < pts.length
    ·obtain ⟨c1, c2⟩ := (HPT.out.below hbr hb) k hkl
     have q1 := (hbr.cell (p := ⟨BX, 0, none⟩) hx1).trans z0
     have q2 := (hbr.cell (p := ⟨BX, 1, none⟩) hx1).trans z1
     have hbb : b < wr.heap.size := Nat.lt_of_lt_of_le hb hbr.size
     have hxr : BX < wr.heap.size := Nat.lt_of_lt_of_le hx1 hbr.size
     have y0 : (0 : Int) ≤ (k : Int) := by omega
     have y1 : (k : Int) < (pts.length : Int) := by omega
     have y4 : IntKind.i64.wrap ((k : Int) + 1) = (k : Int) + 1 := wrap_id (by omega) (by omega)
     obtain ⟨mm, em, hmm⟩ : ∃ mm : Nat, (if k = 0 then 0 else bestW pts (px, py) k) = (mm : Int) ∧ mm < pts.length := by
      by_cases h0 : k = 0
      ·exact ⟨0, by rw [if_pos h0]; rfl, by omega⟩
      ·obtain ⟨g0, g1⟩ := bestW_bd pts (px, py) k (by omega)
       exact ⟨(bestW pts (px, py) k).toNat, by rw [if_neg h0]; omega, by omega⟩
     have HS : Hid (bestW pts (px, py) (k + 1) = if dst (ptAt pts k) (px, py) < dst (ptAt pts mm) (px, py) then (k : Int) else (mm : Int)) := by
      unfold Hid
      by_cases h0 : k = 0
      ·subst h0
       have e0 : mm = 0 := by simp at em; omega
       subst e0
       have : bestW pts (px, py) (0 + 1) = 0 := by simp [bestW]
       rw [this, if_neg (by omega)]; rfl
      ·rw [if_neg h0] at em
       rw [near_best pts (px, py) HNEAR.out HPN.out hkl (by omega), em, pOf_nat]
     rw [em]
     obtain ⟨c3, c4⟩ := (HPT.out.below hbr hb) mm hmm
     have HN1 : Hid (Near (pts.getD k (0, 0)).1 (pts.getD k (0, 0)).2) := HNEAR.out k hkl
     have HN2 : Hid (Near (pts.getD mm (0, 0)).1 (pts.getD mm (0, 0)).2) := HNEAR.out mm hmm
     have e1 : ptAt pts k = ((pts.getD k (0, 0)).1, (pts.getD k (0, 0)).2) := rfl
     have e2 : ptAt pts mm = ((pts.getD mm (0, 0)).1, (pts.getD mm (0, 0)).2) := rfl
     rw [e1, e2] at HS
     clear e1 e2 em
     generalize (pts.getD k (0, 0)).1 = qx at *
     generalize (pts.getD k (0, 0)).2 = qy at *
     generalize (pts.getD mm (0, 0)).1 = mx at *
     generalize (pts.getD mm (0, 0)).2 = my at *
     have v0 : (0 : Int) ≤ (mm : Int) := by omega
     have v1 : (mm : Int) < (pts.length : Int) := by omega
     go_wp2_with fail
     have hUb := below1 wr (.cells #[.int .i64 qx, .int .i64 qy] 37)
     have t0 : (wr.alloc (.cells #[.int .i64 qx, .int .i64 qy] 37)).cell? ⟨wr.heap.size, 0, none⟩ = some (.int .i64 qx) := by rw [World.cell?_alloc_at _ _ _ _ (by simp)]; rfl
     have t1 : (wr.alloc (.cells #[.int .i64 qx, .int .i64 qy] 37)).cell? ⟨wr.heap.size, 1, none⟩ = some (.int .i64 qy) := by rw [World.cell?_alloc_at _ _ _ _ (by simp)]; rfl
     have hsU : (wr.alloc (.cells #[.int .i64 qx, .int .i64 qy] 37)).heap.size = wr.heap.size + 1 := by simp
     generalize wr.alloc (.cells #[.int .i64 qx, .int .i64 qy] 37) = U at *
     replace d0 := (hUb.cell (p := ⟨m, 0, none⟩) hmr).trans d0
     replace q1 := (hUb.cell (p := ⟨BX, 0, none⟩) hxr).trans q1
     replace q2 := (hUb.cell (p := ⟨BX, 1, none⟩) hxr).trans q2
     replace c3 := (hUb.cell (p := ⟨b, off + mm * 2, none⟩) hbb).trans c3
     replace c4 := (hUb.cell (p := ⟨b, off + mm * 2 + 1, none⟩) hbb).trans c4
     clear c1 c2
     have u0 : m < U.heap.size := by omega
     have u1 : BX < U.heap.size := by omega
     have u2 : b < U.heap.size := by omega
     have u3 : wr.heap.size < U.heap.size := by omega
     generalize hQB : wr.heap.size = QB at *
     generalize hd1 : dst (qx, qy) (px, py) = D1 at *
     generalize hd2 : dst (mx, my) (px, py) = D2 at *
     have HD1 : Hid (dst (qx, qy) (px, py) = D1) := hd1
     have HD2 : Hid (dst (mx, my) (px, py) = D2) := hd2
     clear hd1 hd2
     by_cases hdd : D1 < D2
     ·have HB : Hid (bestW pts (px, py) (k + 1) = (k : Int)) := by
       have := HS.out
       rw [if_pos hdd] at this
       exact this
      have hdt : decide (D1 < D2) = true := decide_eq_true hdd
      clear HS
      go_region_held3 (fun w' => Below U.heap.size U w' ∧ ∀ b o, b < U.heap.size → w'.cell? ⟨b, o, none⟩ = U.cell? ⟨b, o, none⟩) (first | exact keep0 _ | exact keep1 (by assumption) hb1)
       (first | (go_at_call 130; first
         | (refine (apart_any px py qx qy _ HPN.out HN1.out).mono ?_; rintro e w' ⟨rfl, hb1⟩; rw [HD1.out])
         | (refine (apart_any px py mx my _ HPN.out HN2.out).mono ?_; rintro e w' ⟨rfl, hb1⟩; rw [HD2.out])))
      rename_i hS
      have hR := hbr.trans ((hUb.trans (hS.1.mono (by omega))).mono (by have := hbr.size; omega))
      clear hS hb1
      go_wp2
      go_roundw
      case rel => exact ⟨k + 1, by omega, by go_num, by rw [if_neg (Nat.succ_ne_zero k), HB.out], hR⟩
      case measure => simp [intOf]; omega
     ·have HB : Hid (bestW pts (px, py) (k + 1) = (mm : Int)) := by
       have := HS.out
       rw [if_neg hdd] at this
       exact this
      have hdt : decide (D1 < D2) = false := decide_eq_false hdd
      clear HS
      go_region_held3 (fun w' => Below U.heap.size U w' ∧ ∀ b o, b < U.heap.size → w'.cell? ⟨b, o, none⟩ = U.cell? ⟨b, o, none⟩) (first | exact keep0 _ | exact keep1 (by assumption) hb1)
       (first | (go_at_call 130; first
         | (refine (apart_any px py qx qy _ HPN.out HN1.out).mono ?_; rintro e w' ⟨rfl, hb1⟩; rw [HD1.out])
         | (refine (apart_any px py mx my _ HPN.out HN2.out).mono ?_; rintro e w' ⟨rfl, hb1⟩; rw [HD2.out])))
      rename_i hS
      have hR := hbr.trans ((hUb.trans (hS.1.mono (by omega))).mono (by have := hbr.size; omega))
      clear hS hb1
      go_wp2
      go_roundw
      case rel => exact ⟨k + 1, by omega, by go_num, by rw [if_neg (Nat.succ_ne_zero k), HB.out], hR⟩
      case measure => simp [intOf]; omega
    ·have ek : k = pts.length := by omega
     subst ek
     rw [if_neg (by omega)]
     obtain ⟨g0, g1⟩ := bestW_bd pts (px, py) pts.length hl0
     obtain ⟨B, eB⟩ : ∃ B : Nat, bestW pts (px, py) pts.length = (B : Int) := ⟨(bestW pts (px, py) pts.length).toNat, by omega⟩
     have hBn : B < nums.length := by have := HLN.out; omega
     have Hr := HH1.out.below hbr
     have d1 := Hr.cells.2.1
     obtain ⟨G, rfl, cN⟩ := NumsAt.of_own Hr.ownN B hBn
     have HR : Hid (NearP' pts nums (px, py) (nums.getD B 0) 0) := .inr (.inr ⟨HF.out, HP0.out, rfl, by rw [eB]; unfold numO; rw [if_pos (by omega), Int.toNat_natCast]⟩)
     have HB2 : Hid (Below BX w wr) := HBW.out.trans (hbr.mono (by omega))
     rw [eB]
     have v0 : (0 : Int) ≤ (B : Int) := by omega
     have v1 : (B : Int) < (nums.length : Int) := by omega
     generalize nums.getD B 0 = vn at *
     clear Hr HH1 hbr eB g0 g1
     go_wp2
     go_ret2
     rw [hBX]
     exact ⟨vn, 0, rfl, HR.out, HB2.out⟩
end Go.Proofs.YtgpapegpdfonpaaGreatDoor
