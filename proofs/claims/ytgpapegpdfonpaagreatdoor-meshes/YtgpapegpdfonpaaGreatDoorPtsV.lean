/-
  mesh.Points.Insert, walked.
  mesh.Points.Insert, walked.
  mesh.Points.Remove, walked.
-/
import Derived.Test.YtgpapegpdfonpaaGreatDoorPtsU
import Derived.Deep.CutRange
import Derived.BigRegion
import Derived.BigQuiet
import Derived.Deep.DeepCutAuto
import Derived.Deep.CutBlock
set_option linter.unusedVariables false
set_option linter.unusedSimpArgs false
namespace Go.Proofs.YtgpapegpdfonpaaGreatDoor
open Go.RowKit
attribute [local go_sem ↓] Go.wp_at_zero Go.wp_at_succ
theorem run_field_P0 (w : World) (K : Nat) : (Instr.fieldAt 99 (.pointer (some ⟨K, 0, none⟩)) 0).run Tryz.prog w = .ok (.pointer (some ⟨K, 0, none⟩)) w := by go_simp
theorem run_field_P1 (w : World) (K : Nat) : (Instr.fieldAt 99 (.pointer (some ⟨K, 0, none⟩)) 1).run Tryz.prog w = .ok (.pointer (some ⟨K, 1, none⟩)) w := by go_simp
theorem run_field_P2 (w : World) (K : Nat) : (Instr.fieldAt 99 (.pointer (some ⟨K, 0, none⟩)) 2).run Tryz.prog w = .ok (.pointer (some ⟨K, 2, none⟩)) w := by go_simp
theorem run_store_int (w : World) (K j : Nat) (v : Value) (n : Int) (h : w.cell? ⟨K, j, none⟩ = some v) (hf : w.frozen? ⟨K, j, none⟩ = false) : (Instr.storeAt 3 (.pointer (some ⟨K, j, none⟩)) (.int .i64 n)).run Tryz.prog w = .ok () (w.setCell ⟨K, j, none⟩ (.int .i64 n)) := by go_simp
theorem run_addE (w : World) (x y : Operand) (k : Nat) (h : k ≤ 2000000000000) : Sem.run Tryz.prog (do eqGuard .add 3 x y (.int .i64 (k : Int)) (.int .i64 1); binOp .add 3 (.int .i64 (k : Int)) (.int .i64 1)) w = .ok (.int .i64 ((k : Int) + 1)) w := by
 have y2 : IntKind.i64.wrap ((k : Int) + 1) = (k : Int) + 1 := wrap_id (by omega) (by omega)
 go_simp
def valsI (m : Nat) (vA vN : Value) (px py : Int) (ever : Nat) : Nat → Option Value
 | 0 => some (.pointer (some ⟨m, 0, none⟩))
 | 1 => some (.pointer (some ⟨m, 0, none⟩))
 | 2 => some (.pointer (some ⟨m, 0, none⟩))
 | 3 => some (.pointer (some ⟨m, 0, none⟩))
 | 4 => some (.pointer (some ⟨m, 0, none⟩))
 | 5 => some (.pointer (some ⟨m, 0, none⟩))
 | 6 => some vA
 | 7 => some (pv px py)
 | 10 => some (.pointer (some ⟨m, 0, none⟩))
 | 11 => some (.pointer (some ⟨m, 0, none⟩))
 | 12 => some (.pointer (some ⟨m, 1, none⟩))
 | 13 => some vN
 | 14 => some (.int .i64 (ever : Int))
 | 17 => some (.int .i64 (ever : Int))
 | 18 => some (.int .i64 ((ever : Int) + 1))
 | 19 => some (.pointer (some ⟨m, 0, none⟩))
 | 20 => some (.pointer (some ⟨m, 0, none⟩))
 | 22 => some (.pointer (some ⟨m, 0, none⟩))
 | 23 => some (.pointer (some ⟨m, 1, none⟩))
 | 25 => some (.pointer (some ⟨m, 0, none⟩))
 | 26 => some (.pointer (some ⟨m, 2, none⟩))
 | _ => none
def chgI (m : Nat) (vA vN : Value) (k : Nat) : Prop := k = m ∨ vA.ownBlock = some k ∨ vN.ownBlock = some k
structure InsI (V : World) (m : Nat) (vA vN : Value) (pts : List Pt) (nums : List Int) (ever : Nat) (px py : Int) (BX : Nat) (L : Nat → Bool) (σ : Nat → Value) (w : World) : Prop where
 val : ∀ i v, valsI m vA vN px py ever i = some v → L i = true → σ i = v
 fA : Fap V 37 2 vA pts.length (cellsP pts) [.int .i64 px, .int .i64 py] (L 8) (L 9) (σ 8) (σ 9) w
 fN : Fap V 3 1 vN nums.length (nums.map (.int .i64)) [.int .i64 (ever : Int)] (L 15) (L 16) (σ 15) (σ 16) w
 fM : w.heap[m]? = some (.cells #[if L 21 then σ 9 else vA, if L 24 then σ 16 else vN, .int .i64 (if L 27 then (ever : Int) + 1 else ever)] 101 (0, 0))
 chg : Chg (chgI m vA vN) V w
 box : L 9 = false → w.cell? ⟨BX, 0, none⟩ = V.cell? ⟨BX, 0, none⟩ ∧ w.cell? ⟨BX, 1, none⟩ = V.cell? ⟨BX, 1, none⟩
section
variable {V w w' : World} {m : Nat} {vA vN : Value} {pts : List Pt} {nums : List Int} {ever : Nat} {px py : Int} {BX : Nat} {L : Nat → Bool} {σ : Nat → Value} {i : Nat} {v : Value}
theorem InsI.stepV (h : InsI V m vA vN pts nums ever px py BX L σ w) (hv : valsI m vA vN px py ever i = some v) : InsI V m vA vN pts nums ever px py BX (fun j => if j = i then true else L j) (fun j => if j = i then v else σ j) w := by
 have ne : ∀ j, valsI m vA vN px py ever j = none → j ≠ i := fun j hj e => by rw [e, hv] at hj; cases hj
 have n8 := ne 8 rfl
 have n9 := ne 9 rfl
 have n15 := ne 15 rfl
 have n16 := ne 16 rfl
 have n21 := ne 21 rfl
 have n24 := ne 24 rfl
 have n27 := ne 27 rfl
 refine ⟨fun j u hj hl => ?_, ?_, ?_, ?_, h.chg, ?_⟩
 ·by_cases e : j = i
  ·subst e; rw [hv] at hj; cases hj; simp
  ·simp only [if_neg e] at hl ⊢; exact h.val j u hj hl
 ·simp only [if_neg n8, if_neg n9]; exact h.fA
 ·simp only [if_neg n15, if_neg n16]; exact h.fN
 ·simp only [if_neg n21, if_neg n24, if_neg n27, if_neg n9, if_neg n16]; exact h.fM
 ·simp only [if_neg n9]; exact h.box
theorem InsI.stepW (h : InsI V m vA vN pts nums ever px py BX L σ w) (hv : valsI m vA vN px py ever i = none)
  (fA : Fap V 37 2 vA pts.length (cellsP pts) [.int .i64 px, .int .i64 py] (if 8 = i then true else L 8) (if 9 = i then true else L 9) (if 8 = i then v else σ 8) (if 9 = i then v else σ 9) w')
  (fN : Fap V 3 1 vN nums.length (nums.map (.int .i64)) [.int .i64 (ever : Int)] (if 15 = i then true else L 15) (if 16 = i then true else L 16) (if 15 = i then v else σ 15) (if 16 = i then v else σ 16) w')
  (fM : w'.heap[m]? = some (.cells #[if (if 21 = i then true else L 21) = true then (if 9 = i then v else σ 9) else vA, if (if 24 = i then true else L 24) = true then (if 16 = i then v else σ 16) else vN, .int .i64 (if (if 27 = i then true else L 27) = true then (ever : Int) + 1 else ever)] 101 (0, 0)))
  (hc : Chg (chgI m vA vN) w w') (hb : (if 9 = i then true else L 9) = false → w'.cell? ⟨BX, 0, none⟩ = w.cell? ⟨BX, 0, none⟩ ∧ w'.cell? ⟨BX, 1, none⟩ = w.cell? ⟨BX, 1, none⟩) :
  InsI V m vA vN pts nums ever px py BX (fun j => if j = i then true else L j) (fun j => if j = i then v else σ j) w' := by
 refine ⟨fun j u hj hl => ?_, fA, fN, fM, h.chg.trans hc fun _ _ g => g, fun e => ?_⟩
 ·have e : j ≠ i := fun e => by rw [e, hv] at hj; cases hj
  simp only [if_neg e] at hl ⊢; exact h.val j u hj hl
 ·have e' : L 9 = false := by
   by_cases c : 9 = i
   ·simp [c] at e
   ·simpa [if_neg c] using e
  obtain ⟨b0, b1⟩ := h.box e'
  obtain ⟨c0, c1⟩ := hb e
  exact ⟨c0.trans b0, c1.trans b1⟩
theorem InsI.cells (h : InsI V m vA vN pts nums ever px py BX L σ w) : w.cell? ⟨m, 0, none⟩ = some (if L 21 then σ 9 else vA) ∧ w.cell? ⟨m, 1, none⟩ = some (if L 24 then σ 16 else vN) ∧ w.cell? ⟨m, 2, none⟩ = some (.int .i64 (if L 27 then (ever : Int) + 1 else ever)) ∧ ∀ j, w.frozen? ⟨m, j, none⟩ = false := by
 have hb := h.fM
 simp [World.cell?, World.frozen?, hb]
end
end Go.Proofs.YtgpapegpdfonpaaGreatDoor

namespace Go.Proofs.YtgpapegpdfonpaaGreatDoor
open Go.RowKit
attribute [local go_sem ↓] Go.wp_at_zero Go.wp_at_succ
def insE (pts : List Pt) (p : Pt) : Int := if farB p.1 p.2 = true then 1 else if p ∈ pts then 3 else if pts.length = 60 then 2 else 0
def InsP (w w' : World) (m : Nat) (pts : List Pt) (nums : List Int) (ever : Nat) (vA vN : Value) (p : Pt) (n : Int) : Prop :=
 (insE pts p ≠ 0 ∧ n = 0 ∧ Below w.heap.size w w') ∨
 (insE pts p = 0 ∧ n = ever ∧ ∃ vA' vN', PRow w' m (pts ++ [p]) (nums ++ [(ever : Int)]) (ever + 1) vA' vN' ∧ Chg (chgI m vA vN) w w' ∧ (∀ g, vA'.ownBlock = some g → vA.ownBlock = some g ∨ w.heap.size ≤ g) ∧ (∀ g, vN'.ownBlock = some g → vN.ownBlock = some g ∨ w.heap.size ≤ g))
theorem pts1 (w : World) (o : Obj) (ax ay : Int) (T : TypeId) : PtsAt ((w.alloc o).alloc (.cells #[.int .i64 ax, .int .i64 ay] T)) (w.heap.size + 1) 0 [(ax, ay)] := by
 intro j hj
 have hj : j = 0 := by simp at hj; omega
 subst hj
 rw [World.cell?_alloc_at _ _ _ _ (by simp), World.cell?_alloc_at _ _ _ _ (by simp)]
 exact ⟨rfl, rfl⟩
theorem anyFar1 (ax ay : Int) : anyFarB [(ax, ay)] = farB ax ay := by simp [anyFarB]
set_option maxRecDepth 100000 in
set_option maxHeartbeats 8000000 in
theorem pinsert_any (m : Nat) (pts : List Pt) (nums : List Int) (ever : Nat) (vA vN : Value) (px py : Int) (w : World) (H : PRow w m pts nums ever vA vN) (hOk : MOk pts nums ever) (hev : ever ≤ 2000000000000) :
  Calls Tryz.prog 125 #[.pointer (some ⟨m, 0, none⟩), .agg #[.int .i64 px, .int .i64 py]] w fun e w' => ∃ n, e = .returned (.tuple #[.int .i64 n, .int .i64 (insE pts (px, py))]) ∧ InsP w w' m pts nums ever vA vN (px, py) n := by
 have hle := hOk.le
 have hn60 : nums.length ≤ 60 := by have := hOk.len; omega
 have HLN : Hid (pts.length = nums.length) := hOk.len
 obtain ⟨iP, hiP, hzP, hsP, hbP⟩ := info_parts infoPt
 obtain ⟨i0, hi0, hz0, hs0, hb0'⟩ := info_parts info3
 have hb0 := below2 w (.cells #[.int .i64 px, .int .i64 py] 37) (.cells #[.int .i64 px, .int .i64 py] 37)
 have HP1 : Hid (PtsAt ((w.alloc (.cells #[.int .i64 px, .int .i64 py] 37)).alloc (.cells #[.int .i64 px, .int .i64 py] 37)) (w.heap.size + 1) 0 [(px, py)]) := pts1 _ _ _ _ _
 have HH : Hid (PRow w m pts nums ever vA vN) := H
 have HIE : Hid (insE pts (px, py) = if farB px py = true then 1 else if (px, py) ∈ pts then 3 else if pts.length = 60 then 2 else 0) := rfl
 cases hfar : farB px py with
 | true =>
  have hie : insE pts (px, py) = 1 := by rw [HIE.out, hfar]; rfl
  have HI : Hid (insE pts (px, py) ≠ 0) := by unfold Hid; rw [hie]; decide
  rw [hie]
  clear H hOk hie
  go_enter Tryz.func125, Tryz.ntmps125
  go_wp2_with (go_at_call 16; refine (anyFar_any _ 0 1 [(px, py)] _ (by simp) (by simp) HP1.out).mono ?_; rintro e w1 ⟨rfl, hb1⟩; rw [anyFar1, hfar])
  go_ret2
  exact ⟨0, rfl, .inl ⟨HI.out, rfl, hb0.trans (hb1.mono hb0.size)⟩⟩
 | false =>
  obtain ⟨pa, pc, rfl⟩ := ownS_any H.ownA
  obtain ⟨na, nc, rfl⟩ := ownS_any H.ownN
  have x0 : ((w.alloc (.cells #[.int .i64 px, .int .i64 py] 37)).alloc (.cells #[.int .i64 px, .int .i64 py] 37)).cell? ⟨w.heap.size, 0, none⟩ = some (.int .i64 px) := by
   rw [World.cell?_alloc_past _ _ _ (by simp), World.cell?_alloc_at _ _ _ _ (by simp)]; rfl
  have x1 : ((w.alloc (.cells #[.int .i64 px, .int .i64 py] 37)).alloc (.cells #[.int .i64 px, .int .i64 py] 37)).cell? ⟨w.heap.size, 1, none⟩ = some (.int .i64 py) := by
   rw [World.cell?_alloc_past _ _ _ (by simp), World.cell?_alloc_at _ _ _ _ (by simp)]; rfl
  go_enter Tryz.func125, Tryz.ntmps125
  go_wp2_with (go_at_call 16; refine (anyFar_any _ 0 1 [(px, py)] _ (by simp) (by simp) HP1.out).mono ?_; rintro e w1 ⟨rfl, hb1⟩; rw [anyFar1, hfar])
  have hsz1 : w.heap.size + 2 ≤ w1.heap.size := by have := hb1.size; simp at this; omega
  have z0 := (hb1.cell (p := ⟨w.heap.size, 0, none⟩) (by simp; omega)).trans x0
  have z1 := (hb1.cell (p := ⟨w.heap.size, 1, none⟩) (by simp; omega)).trans x1
  have hbw : Below w.heap.size w w1 := hb0.trans (hb1.mono hb0.size)
  have H1 := H.below hbw
  have HBW : Hid (Below w.heap.size w w1) := hbw
  have HH1 : Hid (PRow w1 m pts nums ever (.slice pa pts.length pc) (.slice na nums.length nc)) := H1
  have HRA : Hid (RawAt w1 pa pts) := RowP.raw' H1.ownA
  have c0 := H1.cells.1
  have hm1 := H1.lt
  have hx1 : w.heap.size < w1.heap.size := by omega
  clear x0 x1 hb1 hb0 HP1 H H1 hbw hOk
  generalize hBX : w.heap.size = BX at *
  go_region_held3 (fun w' => Below w1.heap.size w1 w' ∧ ∀ b o, b < w1.heap.size → w'.cell? ⟨b, o, none⟩ = w1.cell? ⟨b, o, none⟩) (first | exact keep0 _ | exact keep1 (by assumption) hb2)
   (first | (go_at_call 147; refine (pcont_any _ _ pts _ _ w1.drew hle (show RawAt w1.drew pa pts from HRA.out)).mono ?_; rintro e w2 ⟨rfl, hb2⟩))
  rename_i hS
  have hb12 : Below w1.heap.size w1 w2 := hS.1
  have HB12 : Hid (Below w1.heap.size w1 w2) := hb12
  have hbw2 : Hid (Below w.heap.size w w2) := by unfold Hid; rw [hBX]; exact HBW.out.trans (hb12.mono (by omega))
  have y0 := (hb12.cell (p := ⟨BX, 0, none⟩) hx1).trans z0
  have y1 := (hb12.cell (p := ⟨BX, 1, none⟩) hx1).trans z1
  have H2 := HH1.out.below hb12
  have HH2 : Hid (PRow w2 m pts nums ever (.slice pa pts.length pc) (.slice na nums.length nc)) := H2
  obtain ⟨d0, d1, d2, df⟩ := H2.cells
  have hm2 := H2.lt
  have hx2 : BX < w2.heap.size := Nat.lt_of_lt_of_le hx1 hb12.size
  clear hS hb2 hb12 H2 z0 z1 c0 HRA HH1
  by_cases hmem : (px, py) ∈ pts
  ·have hie : insE pts (px, py) = 3 := by rw [HIE.out, hfar, if_neg (by simp), if_pos hmem]
   have HI : Hid (insE pts (px, py) ≠ 0) := by unfold Hid; rw [hie]; decide
   rw [decide_eq_true hmem]
   have HQ : Hid (insE pts (px, py) = 3) := hie
   clear hmem hie
   go_wp2
   go_ret2
   rw [HQ.out]
   exact ⟨0, rfl, .inl ⟨HI.out, rfl, hbw2.out⟩⟩
  ·rw [decide_eq_false hmem]
   by_cases h60 : pts.length = 60
   ·have hie : insE pts (px, py) = 2 := by rw [HIE.out, hfar, if_neg (by simp), if_neg hmem, if_pos h60]
    have HI : Hid (insE pts (px, py) ≠ 0) := by unfold Hid; rw [hie]; decide
    have HQ : Hid (insE pts (px, py) = 2) := hie
    have q60 : decide ((60 : Int) ≤ (pts.length : Int)) = true := decide_eq_true (by omega)
    have r60 : (60 : Int) ≤ (pts.length : Int) := by omega
    clear hmem h60 hie
    go_wp2
    go_ret2
    rw [HQ.out]
    exact ⟨0, rfl, .inl ⟨HI.out, rfl, hbw2.out⟩⟩
   ·have hie : insE pts (px, py) = 0 := by rw [HIE.out, hfar, if_neg (by simp), if_neg hmem, if_neg h60]
    have HQ : Hid (insE pts (px, py) = 0) := hie
    have r60 : ¬ (60 : Int) ≤ (pts.length : Int) := by omega
    clear hmem h60 hie
    go_wp2_with fail
    have HV : Hid (InsI w2 m (.slice pa pts.length pc) (.slice na nums.length nc) pts nums ever px py BX (fun _ => false) (fun _ => undef) w2.drew) :=
     ⟨(fun _ _ _ h => by cases h), ⟨(fun h => by cases h), fun _ => ⟨HH2.out.ownA, fun h => by cases h⟩⟩, ⟨(fun h => by cases h), fun _ => ⟨HH2.out.ownN, fun h => by cases h⟩⟩, HH2.out.blk, ⟨rfl, rfl, rfl, Nat.le_refl _, fun _ _ _ => rfl⟩, fun _ => ⟨rfl, rfl⟩⟩
    refine wp_region_inv (m := 28) (by kernel_rfl) (by kernel_rfl) (dsts := [some 29, some 30, some 31, some 32, some 33, some 34, some 35, some 36, some 37, some 38, some 39, some 40, some 41, some 42, some 43, some 44, some 45, some 46, some 47, some 48, some 49, none, some 50, some 51, none, some 52, some 53, none]) rfl (by kernel_rfl) (l := []) rfl (InsI w2 m (.slice pa pts.length pc) (.slice na nums.length nc) pts nums ever px py BX) HV.out ?_ ?_
    ·refine flS (flS (flS (flS (flS (flS (flS (flS (flS (flS (flS (flS (flS (flS (flS (flS (flS (flS (flS (flS (flS (flS (flS (flS (flS (flS (flS (flS fl0 ?_) ?_) ?_) ?_) ?_) ?_) ?_) ?_) ?_) ?_) ?_) ?_) ?_) ?_) ?_) ?_) ?_) ?_) ?_) ?_) ?_) ?_) ?_) ?_) ?_) ?_) ?_) ?_
     all_goals intro Ls σ wx hS hp hdn hun
     ·exact (gives_move (x := .tmp 0) rfl rfl (hS.stepV (i := 0) rfl)).toS
     ·exact (gives_move (x := .tmp 0) rfl rfl (hS.stepV (i := 1) rfl)).toS
     ·exact (gives_move (x := .tmp 0) rfl rfl (hS.stepV (i := 2) rfl)).toS
     ·exact (gives_move (x := .tmp 0) rfl rfl (hS.stepV (i := 3) rfl)).toS
     ·exact (gives_nil (x := .tmp 32) rfl (show σ 3 = _ from hS.val 3 _ rfl (hp 3 rfl)) (hS.stepV (i := 4) rfl)).toS
     ·exact (gives_field (T := 99) (x := .tmp 33) (f := 0) rfl (show σ 4 = _ from hS.val 4 _ rfl (hp 4 rfl)) (run_field_P0 _ _) (hS.stepV (i := 5) rfl)).toS
     ·have n21 : Ls 21 = false := by
       cases hl : Ls 21 with
       | false => rfl
       | true => have := (hdn 9 6 (hdn 21 9 hl rfl) rfl); rw [hun] at this; cases this
      have c := hS.cells.1
      rw [n21] at c
      exact (gives_load (T := 41) (x := .tmp 34) rfl (show σ 5 = _ from hS.val 5 _ rfl (hp 5 rfl)) (run_load_pts _ _ _ _ c) (hS.stepV (i := 6) rfl)).toS
     ·have n9 : Ls 9 = false := by
       cases hl : Ls 9 with
       | false => rfl
       | true => have := (hdn 8 7 (hdn 9 8 hl rfl) rfl); rw [hun] at this; cases this
      obtain ⟨b0, b1⟩ := hS.box n9
      exact (gives_load (T := 37) (x := .tmp 3) rfl rfl (run_load_pt _ _ _ px py (b0.trans y0) (b1.trans y1)) (hS.stepV (i := 7) rfl)).toS
     ·have n9 : Ls 9 = false := by
       cases hl : Ls 9 with
       | false => rfl
       | true => have := (hdn 9 8 hl rfl); rw [hun] at this; cases this
      have n21 : Ls 21 = false := by
       cases hl : Ls 21 with
       | false => rfl
       | true => have := (hdn 9 8 (hdn 21 9 hl rfl) rfl); rw [hun] at this; cases this
      have fA := hS.fA
      rw [n9, hun] at fA
      refine (gives_build (T := 41) (n := 1) (x := .tmp 36) rfl (show σ 7 = _ from hS.val 7 _ rfl (hp 7 rfl)) (run_build_pt _ _ _) (hS.stepW (i := 8) rfl ?_ ?_ ?_ ?_ ?_)).toS
      ·simp only [n9, reduceIte, if_neg (show ¬ (9 = 8) by decide)]; exact fA.build hS.chg.size
      ·exact hS.fN.keep (keepsT_alloc _ _ _)
      ·exact keepsT_alloc _ _ _ _ _ hS.fM
      ·exact Chg.of_below (below1 _ _)
      ·intro _; exact ⟨World.cell?_alloc_past _ _ _ (Nat.lt_of_lt_of_le hx2 hS.chg.size), World.cell?_alloc_past _ _ _ (Nat.lt_of_lt_of_le hx2 hS.chg.size)⟩
     ·have n21 : Ls 21 = false := by
       cases hl : Ls 21 with
       | false => rfl
       | true => have := (hdn 21 9 hl rfl); rw [hun] at this; cases this
      have n24 : Ls 24 = false := by
       cases hl : Ls 24 with
       | false => rfl
       | true => have := (hdn 21 9 (hdn 24 21 hl rfl) rfl); rw [hun] at this; cases this
      have fA := hS.fA
      rw [hp 8 rfl, hun] at fA
      obtain ⟨g, cap, w', hrun, fA', hk, hc⟩ := fA.append (P := Tryz.prog) (t := 41) (ty := (opAt _ 9).type) Tryz.underlying41 hiP hzP hsP hbP rfl (by decide) rfl (by intro u hu; simp at hu; rcases hu with rfl | rfl <;> rfl) (by omega) (by decide) hS.chg.size
      refine (gives_append (t := 41) (s := .tmp 35) (x := .tmp 37) rfl (show σ 6 = _ from hS.val 6 _ rfl (hp 6 rfl)) (show σ 8 = σ 8 from rfl) hrun (hS.stepW (i := 9) rfl ?_ ?_ ?_ ?_ ?_)).toS
      ·simp only [hp 8 rfl, reduceIte, if_neg (show ¬ (8 = 9) by decide)]; exact fA'
      ·exact hS.fN.keep (hk _ (by decide))
      ·have := hk 101 (by decide) _ _ hS.fM
       rw [n21] at this
       simpa [n21] using this
      ·exact hc.mono fun k _ h => .inr (.inl h)
      ·intro h; simp at h
     ·exact (gives_move (x := .tmp 0) rfl rfl (hS.stepV (i := 10) rfl)).toS
     ·exact (gives_nil (x := .tmp 39) rfl (show σ 10 = _ from hS.val 10 _ rfl (hp 10 rfl)) (hS.stepV (i := 11) rfl)).toS
     ·exact (gives_field (T := 99) (x := .tmp 40) (f := 1) rfl (show σ 11 = _ from hS.val 11 _ rfl (hp 11 rfl)) (run_field_P1 _ _) (hS.stepV (i := 12) rfl)).toS
     ·have n24 : Ls 24 = false := by
       cases hl : Ls 24 with
       | false => rfl
       | true => have := (hdn 16 13 (hdn 24 16 hl rfl) rfl); rw [hun] at this; cases this
      have c := hS.cells.2.1
      rw [n24] at c
      exact (gives_load (T := 26) (x := .tmp 41) rfl (show σ 12 = _ from hS.val 12 _ rfl (hp 12 rfl)) (run_load_nums _ _ _ _ c) (hS.stepV (i := 13) rfl)).toS
     ·exact (gives_move (x := .tmp 6) rfl rfl (hS.stepV (i := 14) rfl)).toS
     ·have n16 : Ls 16 = false := by
       cases hl : Ls 16 with
       | false => rfl
       | true => have := (hdn 16 15 hl rfl); rw [hun] at this; cases this
      have fN := hS.fN
      rw [n16, hun] at fN
      refine (gives_build (T := 26) (n := 1) (x := .tmp 43) rfl (show σ 14 = _ from hS.val 14 _ rfl (hp 14 rfl)) (run_build_int _ _) (hS.stepW (i := 15) rfl ?_ ?_ ?_ ?_ ?_)).toS
      ·exact hS.fA.keep (keepsT_alloc _ _ _)
      ·simp only [n16, reduceIte, if_neg (show ¬ (16 = 15) by decide)]; exact fN.build hS.chg.size
      ·exact keepsT_alloc _ _ _ _ _ hS.fM
      ·exact Chg.of_below (below1 _ _)
      ·intro _; exact ⟨World.cell?_alloc_past _ _ _ (Nat.lt_of_lt_of_le hx2 hS.chg.size), World.cell?_alloc_past _ _ _ (Nat.lt_of_lt_of_le hx2 hS.chg.size)⟩
     ·have n24 : Ls 24 = false := by
       cases hl : Ls 24 with
       | false => rfl
       | true => have := (hdn 24 16 hl rfl); rw [hun] at this; cases this
      have fN := hS.fN
      have h9 : Ls 9 = true := hp 9 rfl
      rw [hp 15 rfl, hun] at fN
      obtain ⟨g, cap, w', hrun, fN', hk, hc⟩ := fN.append (P := Tryz.prog) (t := 26) (ty := (opAt _ 16).type) Tryz.underlying26 hi0 hz0 hs0 hb0' rfl (by decide) rfl (by intro u hu; simp at hu; rw [hu]; rfl) (by omega) (by decide) hS.chg.size
      refine (gives_append (t := 26) (s := .tmp 42) (x := .tmp 44) rfl (show σ 13 = _ from hS.val 13 _ rfl (hp 13 rfl)) (show σ 15 = σ 15 from rfl) hrun (hS.stepW (i := 16) rfl ?_ ?_ ?_ ?_ ?_)).toS
      ·exact hS.fA.keep (hk _ (by decide))
      ·simp only [hp 15 rfl, reduceIte, if_neg (show ¬ (15 = 16) by decide)]; exact fN'
      ·have := hk 101 (by decide) _ _ hS.fM
       rw [n24] at this
       simpa [n24] using this
      ·exact hc.mono fun k _ h => .inr (.inr h)
      ·intro h; simp [h9] at h
     ·exact (gives_move (x := .tmp 6) rfl rfl (hS.stepV (i := 17) rfl)).toS
     ·exact (gives_bin (b := .add) (T := 3) (T' := 3) (x := .tmp 46) (y := .const (.int .i64 1)) rfl (show σ 17 = _ from hS.val 17 _ rfl (hp 17 rfl)) rfl (run_addE _ _ _ _ hev) (hS.stepV (i := 18) rfl)).toS
     ·exact (gives_nil (x := .tmp 29) rfl (show σ 0 = _ from hS.val 0 _ rfl (hp 0 rfl)) (hS.stepV (i := 19) rfl)).toS
     ·exact (gives_field (T := 99) (x := .tmp 48) (f := 0) rfl (show σ 19 = _ from hS.val 19 _ rfl (hp 19 rfl)) (run_field_P0 _ _) (hS.stepV (i := 20) rfl)).toS
     ·have h9 : Ls 9 = true := hp 9 rfl
      have h16 : Ls 16 = true := hp 16 rfl
      have n24 : Ls 24 = false := by
       cases hl : Ls 24 with
       | false => rfl
       | true => have := (hdn 24 21 hl rfl); rw [hun] at this; cases this
      have n27 : Ls 27 = false := by
       cases hl : Ls 27 with
       | false => rfl
       | true => have := (hdn 24 21 (hdn 27 24 hl rfl) rfl); rw [hun] at this; cases this
      obtain ⟨g, cap, e9, o9, _⟩ := hS.fA.1 h9
      have fM := hS.fM
      rw [hun, n24, n27] at fM
      simp only [Bool.false_eq_true, if_false] at fM
      have st := heap_setCell_same _ m 0 _ _ (σ 9) fM
      have c := hS.cells
      rw [hun] at c
      refine gives_store (T := 41) (x := .tmp 49) (y := .tmp 38) rfl (show σ 20 = _ from hS.val 20 _ rfl (hp 20 rfl)) (show σ 9 = _ from e9) (run_store_pts _ _ _ _ _ _ _ c.1 (c.2.2.2 0)) (hS.stepW (i := 21) rfl ?_ ?_ ?_ ?_ ?_)
      ·exact hS.fA.keep (keepsT_set fM (by decide))
      ·exact hS.fN.keep (keepsT_set fM (by decide))
      ·rw [← e9, st]; simp [n24, n27]
      ·exact ⟨rfl, rfl, rfl, by simp [World.setCell], fun k _ hk => Below.heap_setCell _ _ _ _ fun e => hk (.inl e)⟩
      ·intro h; simp [h9] at h
     ·exact (gives_nil (x := .tmp 30) rfl (show σ 1 = _ from hS.val 1 _ rfl (hp 1 rfl)) (hS.stepV (i := 22) rfl)).toS
     ·exact (gives_field (T := 99) (x := .tmp 50) (f := 1) rfl (show σ 22 = _ from hS.val 22 _ rfl (hp 22 rfl)) (run_field_P1 _ _) (hS.stepV (i := 23) rfl)).toS
     ·have h9 : Ls 9 = true := hdn 21 9 (hp 21 rfl) rfl
      have h16 : Ls 16 = true := hp 16 rfl
      have h21 : Ls 21 = true := hp 21 rfl
      have n27 : Ls 27 = false := by
       cases hl : Ls 27 with
       | false => rfl
       | true => have := (hdn 27 24 hl rfl); rw [hun] at this; cases this
      obtain ⟨g, cap, e16, o16, _⟩ := hS.fN.1 h16
      have fM := hS.fM
      rw [hun, h21, n27] at fM
      simp only [Bool.false_eq_true, if_false, if_true] at fM
      have st := heap_setCell_same _ m 1 _ _ (σ 16) fM
      have c := hS.cells
      rw [hun] at c
      refine gives_store (T := 26) (x := .tmp 51) (y := .tmp 45) rfl (show σ 23 = _ from hS.val 23 _ rfl (hp 23 rfl)) (show σ 16 = _ from e16) (run_store_nums _ _ _ _ _ _ _ c.2.1 (c.2.2.2 1)) (hS.stepW (i := 24) rfl ?_ ?_ ?_ ?_ ?_)
      ·exact hS.fA.keep (keepsT_set fM (by decide))
      ·exact hS.fN.keep (keepsT_set fM (by decide))
      ·rw [← e16, st]; simp [h21, n27]
      ·exact ⟨rfl, rfl, rfl, by simp [World.setCell], fun k _ hk => Below.heap_setCell _ _ _ _ fun e => hk (.inl e)⟩
      ·intro h; simp [h9] at h
     ·exact (gives_nil (x := .tmp 31) rfl (show σ 2 = _ from hS.val 2 _ rfl (hp 2 rfl)) (hS.stepV (i := 25) rfl)).toS
     ·exact (gives_field (T := 99) (x := .tmp 52) (f := 2) rfl (show σ 25 = _ from hS.val 25 _ rfl (hp 25 rfl)) (run_field_P2 _ _) (hS.stepV (i := 26) rfl)).toS
     ·have h24 : Ls 24 = true := hp 24 rfl
      have h21 : Ls 21 = true := hdn 24 21 h24 rfl
      have h9 : Ls 9 = true := hdn 21 9 h21 rfl
      have fM := hS.fM
      rw [hun, h21, h24] at fM
      simp only [Bool.false_eq_true, if_false, if_true] at fM
      have st := heap_setCell_same _ m 2 _ _ (.int .i64 ((ever : Int) + 1)) fM
      have c := hS.cells
      refine gives_store (T := 3) (x := .tmp 53) (y := .tmp 47) rfl (show σ 26 = _ from hS.val 26 _ rfl (hp 26 rfl)) (show σ 18 = _ from hS.val 18 _ rfl (hp 18 rfl)) (run_store_int _ _ _ _ _ c.2.2.1 (c.2.2.2 2)) (hS.stepW (i := 27) rfl ?_ ?_ ?_ ?_ ?_)
      ·exact hS.fA.keep (keepsT_set fM (by decide))
      ·exact hS.fN.keep (keepsT_set fM (by decide))
      ·rw [st]; simp [h21, h24]
      ·exact ⟨rfl, rfl, rfl, by simp [World.setCell], fun k _ hk => Below.heap_setCell _ _ _ _ fun e => hk (.inl e)⟩
      ·intro h; simp [h9] at h
    ·intro Ls σ wx hS hall
     have h9 := hall 9 (by omega)
     have h16 := hall 16 (by omega)
     have h21 := hall 21 (by omega)
     have h24 := hall 24 (by omega)
     have h27 := hall 27 (by omega)
     obtain ⟨g9, cap9, e9, o9, a9⟩ := hS.fA.1 h9
     obtain ⟨g16, cap16, e16, o16, a16⟩ := hS.fN.1 h16
     have fM := hS.fM
     rw [h21, h24, h27] at fM
     simp only [if_true] at fM
     have HFIN : Hid (InsP w wx m pts nums ever (.slice pa pts.length pc) (.slice na nums.length nc) (px, py) ever) := by
      refine .inr ⟨HQ.out, rfl, σ 9, σ 16, ⟨fM, ?_, ?_⟩, ?_, ?_, ?_⟩
      ·rw [List.length_append, cellsP_append]; exact o9
      ·rw [List.length_append, List.map_append]; exact o16
      ·exact (Chg.of_below hbw2.out).trans hS.chg fun _ _ h => h
      ·intro g hg
       rw [e9] at hg; cases hg
       rcases a9 with a9 | a9
       ·exact .inl a9
       ·exact .inr (Nat.le_trans hbw2.out.size a9)
      ·intro g hg
       rw [e16] at hg; cases hg
       rcases a16 with a16 | a16
       ·exact .inl a16
       ·exact .inr (Nat.le_trans hbw2.out.size a16)
     clear fM hS o9 o16 a9 a16
     refine ⟨?_⟩
     simp only [lay, Act.put, List.drop_succ_cons, List.drop_zero, List.setIfInBounds_toArray, List.set_cons_succ, List.set_cons_zero]
     go_wp2_with fail
     go_ret2
     rw [HQ.out]
     exact ⟨ever, rfl, HFIN.out⟩
end Go.Proofs.YtgpapegpdfonpaaGreatDoor

namespace Go.Proofs.YtgpapegpdfonpaaGreatDoor
open Go.RowKit
attribute [local go_sem ↓] Go.wp_at_zero Go.wp_at_succ
def valsX (m : Nat) (vA vN : Value) (i : Nat) : Nat → Option Value
 | 0 => some (.pointer (some ⟨m, 0, none⟩))
 | 1 => some (.pointer (some ⟨m, 0, none⟩))
 | 2 => some (.pointer (some ⟨m, 0, none⟩))
 | 3 => some (.pointer (some ⟨m, 0, none⟩))
 | 4 => some (.pointer (some ⟨m, 0, none⟩))
 | 5 => some vA
 | 6 => some (.int .i64 (i : Int))
 | 7 => some (.int .i64 (i : Int))
 | 8 => some (.int .i64 ((i : Int) + 1))
 | 10 => some (.pointer (some ⟨m, 0, none⟩))
 | 11 => some (.pointer (some ⟨m, 0, none⟩))
 | 12 => some (.pointer (some ⟨m, 1, none⟩))
 | 13 => some vN
 | 14 => some (.int .i64 (i : Int))
 | 15 => some (.int .i64 (i : Int))
 | 16 => some (.int .i64 ((i : Int) + 1))
 | 18 => some (.pointer (some ⟨m, 0, none⟩))
 | 19 => some (.pointer (some ⟨m, 0, none⟩))
 | 21 => some (.pointer (some ⟨m, 0, none⟩))
 | 22 => some (.pointer (some ⟨m, 1, none⟩))
 | _ => none
def Fdl (T : TypeId) (s : Nat) (v v' : Value) (n n' : Nat) (xs xs' : List Value) (b : Bool) (x : Value) (w : World) : Prop :=
 (b = true → x = v' ∧ w.ownsRow 0 T s v' n' xs') ∧ (b = false → w.ownsRow 0 T s v n xs)
theorem Fdl.keep {w w' : World} {T : TypeId} {s n n' : Nat} {v v' x : Value} {xs xs' : List Value} {b : Bool} (h : Fdl T s v v' n n' xs xs' b x w) (k : KeepsT T w w') : Fdl T s v v' n n' xs xs' b x w' :=
 ⟨fun e => ⟨(h.1 e).1, k.own (h.1 e).2⟩, fun e => k.own (h.2 e)⟩
structure RemI (V : World) (m : Nat) (vA vN vA' vN' : Value) (pts : List Pt) (nums : List Int) (ever i : Nat) (L : Nat → Bool) (σ : Nat → Value) (w : World) : Prop where
 val : ∀ j v, valsX m vA vN i j = some v → L j = true → σ j = v
 fA : Fdl 37 2 vA vA' pts.length (pts.eraseIdx i).length (cellsP pts) (cellsP (pts.eraseIdx i)) (L 9) (σ 9) w
 fN : Fdl 3 1 vN vN' nums.length (nums.eraseIdx i).length (nums.map (.int .i64)) ((nums.eraseIdx i).map (.int .i64)) (L 17) (σ 17) w
 fM : w.heap[m]? = some (.cells #[if L 20 then vA' else vA, if L 23 then vN' else vN, .int .i64 (ever : Int)] 101 (0, 0))
 chg : Chg (chgI m vA vN) V w
section
variable {V w w' : World} {m : Nat} {vA vN vA' vN' : Value} {pts : List Pt} {nums : List Int} {ever i : Nat} {L : Nat → Bool} {σ : Nat → Value} {o : Nat} {v : Value}
theorem RemI.stepV (h : RemI V m vA vN vA' vN' pts nums ever i L σ w) (hv : valsX m vA vN i o = some v) : RemI V m vA vN vA' vN' pts nums ever i (fun j => if j = o then true else L j) (fun j => if j = o then v else σ j) w := by
 have ne : ∀ j, valsX m vA vN i j = none → j ≠ o := fun j hj e => by rw [e, hv] at hj; cases hj
 have n9 := ne 9 rfl
 have n17 := ne 17 rfl
 have n20 := ne 20 rfl
 have n23 := ne 23 rfl
 refine ⟨fun j u hj hl => ?_, ?_, ?_, ?_, h.chg⟩
 ·by_cases e : j = o
  ·subst e; rw [hv] at hj; cases hj; simp
  ·simp only [if_neg e] at hl ⊢; exact h.val j u hj hl
 ·simp only [if_neg n9]; exact h.fA
 ·simp only [if_neg n17]; exact h.fN
 ·simp only [if_neg n20, if_neg n23]; exact h.fM
theorem RemI.stepW (h : RemI V m vA vN vA' vN' pts nums ever i L σ w) (hv : valsX m vA vN i o = none)
  (fA : Fdl 37 2 vA vA' pts.length (pts.eraseIdx i).length (cellsP pts) (cellsP (pts.eraseIdx i)) (if 9 = o then true else L 9) (if 9 = o then v else σ 9) w')
  (fN : Fdl 3 1 vN vN' nums.length (nums.eraseIdx i).length (nums.map (.int .i64)) ((nums.eraseIdx i).map (.int .i64)) (if 17 = o then true else L 17) (if 17 = o then v else σ 17) w')
  (fM : w'.heap[m]? = some (.cells #[if (if 20 = o then true else L 20) = true then vA' else vA, if (if 23 = o then true else L 23) = true then vN' else vN, .int .i64 (ever : Int)] 101 (0, 0)))
  (hc : Chg (chgI m vA vN) w w') : RemI V m vA vN vA' vN' pts nums ever i (fun j => if j = o then true else L j) (fun j => if j = o then v else σ j) w' := by
 refine ⟨fun j u hj hl => ?_, fA, fN, fM, h.chg.trans hc fun _ _ g => g⟩
 have e : j ≠ o := fun e => by rw [e, hv] at hj; cases hj
 simp only [if_neg e] at hl ⊢; exact h.val j u hj hl
theorem RemI.cells (h : RemI V m vA vN vA' vN' pts nums ever i L σ w) : w.cell? ⟨m, 0, none⟩ = some (if L 20 then vA' else vA) ∧ w.cell? ⟨m, 1, none⟩ = some (if L 23 then vN' else vN) ∧ ∀ j, w.frozen? ⟨m, j, none⟩ = false := by
 have hb := h.fM
 simp [World.cell?, World.frozen?, hb]
end
theorem run_addI (w : World) (x y : Operand) (k : Nat) (h : k ≤ 1000000) : Sem.run Tryz.prog (do eqGuard .add 3 x y (.int .i64 (k : Int)) (.int .i64 1); binOp .add 3 (.int .i64 (k : Int)) (.int .i64 1)) w = .ok (.int .i64 ((k : Int) + 1)) w := by
 have e : IntKind.i64.wrap ((k : Int) + 1) = (k : Int) + 1 := wrap_id (by omega) (by omega)
 go_simp
def RemP (w w' : World) (m : Nat) (pts : List Pt) (nums : List Int) (ever : Nat) (vA vN : Value) (n e : Int) : Prop :=
 (n ∉ nums ∧ e = 4 ∧ Below w.heap.size w w') ∨
 (n ∈ nums ∧ e = 0 ∧ ∃ i, i < nums.length ∧ nums.getD i 0 = n ∧ ∃ vA' vN', PRow w' m (pts.eraseIdx i) (nums.eraseIdx i) ever vA' vN' ∧ Chg (chgI m vA vN) w w' ∧ (∀ g, vA'.ownBlock = some g → vA.ownBlock = some g) ∧ (∀ g, vN'.ownBlock = some g → vN.ownBlock = some g))
set_option maxRecDepth 100000 in
set_option maxHeartbeats 8000000 in
theorem premove_any (m : Nat) (pts : List Pt) (nums : List Int) (ever : Nat) (vA vN : Value) (n : Int) (w : World) (H : PRow w m pts nums ever vA vN) (hOk : MOk pts nums ever) :
  Calls Tryz.prog 126 #[.pointer (some ⟨m, 0, none⟩), .int .i64 n] w fun e w' => ∃ r, e = .returned (.int .i64 r) ∧ RemP w w' m pts nums ever vA vN n r := by
 have hle := hOk.le
 have hn60 : nums.length ≤ 60 := by have := hOk.len; omega
 have HLN : Hid (pts.length = nums.length) := hOk.len
 have HH : Hid (PRow w m pts nums ever vA vN) := H
 obtain ⟨pa, pc, rfl⟩ := ownS_any H.ownA
 obtain ⟨na, nc, rfl⟩ := ownS_any H.ownN
 have HNA : Hid (NumsAt w na nums) := NumsAt.of_own H.ownN
 have HIN : Hid (nums.Pairwise (· < ·)) := hOk.inc
 have d1 := H.cells.2.1
 have hm := H.lt
 clear H hOk
 by_cases hmem : n ∈ nums
 ·have hdt : decide (n ∈ nums) = true := decide_eq_true hmem
  have HM : Hid (n ∈ nums) := hmem
  clear hmem
  go_enter Tryz.func126, Tryz.ntmps126
  go_wp2_with (go_at_call 148; refine (bsearch_any _ _ nums n _ hn60 HNA.out HIN.out).mono ?_; rintro e w1 ⟨i, rfl, hi, hb1⟩; rw [hdt])
  obtain ⟨hin, hie⟩ := hi HM.out
  have H1 := HH.out.below hb1
  have HB1 : Hid (Below w.heap.size w w1) := hb1
  have HI : Hid (i < nums.length ∧ nums.getD i 0 = n) := ⟨hin, hie⟩
  have hip : i < pts.length := by rw [HLN.out]; exact hin
  obtain ⟨gA, rfl, hgA, _⟩ := ownS_place H1.ownA (by omega)
  obtain ⟨gN, rfl, hgN, _⟩ := ownS_place H1.ownN (by omega)
  have HH1 : Hid (PRow w1 m pts nums ever (.slice (some ⟨gA, 0, none⟩) pts.length pc) (.slice (some ⟨gN, 0, none⟩) nums.length nc)) := H1
  have hi60 : i ≤ 1000000 := by omega
  clear hi hie H1 hb1 d1 HNA hgA hgN
  have HV : Hid (RemI w1 m (.slice (some ⟨gA, 0, none⟩) pts.length pc) (.slice (some ⟨gN, 0, none⟩) nums.length nc) (.slice (some ⟨gA, 0, none⟩) (pts.length - 1) pc) (.slice (some ⟨gN, 0, none⟩) (nums.length - 1) nc) pts nums ever i (fun _ => false) (fun _ => undef) w1.drew) :=
   ⟨(fun _ _ _ h => by cases h), ⟨(fun h => by cases h), fun _ => HH1.out.ownA⟩, ⟨(fun h => by cases h), fun _ => HH1.out.ownN⟩, HH1.out.blk, ⟨rfl, rfl, rfl, Nat.le_refl _, fun _ _ _ => rfl⟩⟩
  refine wp_region_inv (m := 24) (by kernel_rfl) (by kernel_rfl) (dsts := [some 18, some 19, some 20, some 21, some 22, some 23, some 24, some 25, some 26, some 27, some 28, some 29, some 30, some 31, some 32, some 33, some 34, some 35, some 36, some 37, none, some 38, some 39, none]) rfl (by kernel_rfl) (l := []) rfl (RemI w1 m (.slice (some ⟨gA, 0, none⟩) pts.length pc) (.slice (some ⟨gN, 0, none⟩) nums.length nc) (.slice (some ⟨gA, 0, none⟩) (pts.length - 1) pc) (.slice (some ⟨gN, 0, none⟩) (nums.length - 1) nc) pts nums ever i) HV.out ?_ ?_
  ·refine flS (flS (flS (flS (flS (flS (flS (flS (flS (flS (flS (flS (flS (flS (flS (flS (flS (flS (flS (flS (flS (flS (flS (flS fl0 ?_) ?_) ?_) ?_) ?_) ?_) ?_) ?_) ?_) ?_) ?_) ?_) ?_) ?_) ?_) ?_) ?_) ?_) ?_) ?_) ?_) ?_) ?_) ?_
   all_goals intro Ls σ wx hS hp hdn hun
   ·exact (gives_move (x := .tmp 0) rfl rfl (hS.stepV (o := 0) rfl)).toS
   ·exact (gives_move (x := .tmp 0) rfl rfl (hS.stepV (o := 1) rfl)).toS
   ·exact (gives_move (x := .tmp 0) rfl rfl (hS.stepV (o := 2) rfl)).toS
   ·exact (gives_nil (x := .tmp 20) rfl (show σ 2 = _ from hS.val 2 _ rfl (hp 2 rfl)) (hS.stepV (o := 3) rfl)).toS
   ·exact (gives_field (T := 99) (x := .tmp 21) (f := 0) rfl (show σ 3 = _ from hS.val 3 _ rfl (hp 3 rfl)) (run_field_P0 _ _) (hS.stepV (o := 4) rfl)).toS
   ·have n20 : Ls 20 = false := by
     cases hl : Ls 20 with
     | false => rfl
     | true => have := (hdn 9 5 (hdn 20 9 hl rfl) rfl); rw [hun] at this; cases this
    have c := hS.cells.1
    rw [n20] at c
    exact (gives_load (T := 41) (x := .tmp 22) rfl (show σ 4 = _ from hS.val 4 _ rfl (hp 4 rfl)) (run_load_pts _ _ _ _ c) (hS.stepV (o := 5) rfl)).toS
   ·exact (gives_move (x := .tmp 5) rfl rfl (hS.stepV (o := 6) rfl)).toS
   ·exact (gives_move (x := .tmp 5) rfl rfl (hS.stepV (o := 7) rfl)).toS
   ·exact (gives_bin (b := .add) (T := 3) (T' := 3) (x := .tmp 25) (y := .const (.int .i64 1)) rfl (show σ 7 = _ from hS.val 7 _ rfl (hp 7 rfl)) rfl (run_addI _ _ _ _ hi60) (hS.stepV (o := 8) rfl)).toS
   ·have n20 : Ls 20 = false := by
     cases hl : Ls 20 with
     | false => rfl
     | true => have := (hdn 20 9 hl rfl); rw [hun] at this; cases this
    have n23 : Ls 23 = false := by
     cases hl : Ls 23 with
     | false => rfl
     | true => have := (hdn 20 9 (hdn 23 20 hl rfl) rfl); rw [hun] at this; cases this
    have h5' : σ 5 = _ := hS.val 5 _ rfl (hp 5 rfl)
    have h6' : σ 6 = _ := hS.val 6 _ rfl (hp 6 rfl)
    have h8' : σ 8 = _ := hS.val 8 _ rfl (hp 8 rfl)
    have ho := hS.fA.2 hun
    obtain ⟨cA, hcA⟩ := ownS_typ ho rfl
    refine (gives_call (f := 149) (args := [.slice (some ⟨gA, 0, none⟩) pts.length pc, .int .i64 (i : Int), .int .i64 ((i : Int) + 1)]) rfl rfl (by show [σ 5, σ 6, σ 8] = _; rw [h5', h6', h8']) (by go_simp) ((delP_any gA pc i pts wx ho hle hip).mono ?_)).toS
    rintro e w' ⟨rfl, ho', hc⟩
    refine ⟨_, rfl, hS.stepW (o := 9) rfl ?_ ?_ ?_ ?_⟩
    ·exact ⟨fun _ => ⟨rfl, ho'⟩, fun h => by simp at h⟩
    ·exact hS.fN.keep (keepsT_chg hc hcA (by decide))
    ·exact keepsT_chg hc hcA (by decide) _ _ hS.fM
    ·exact hc.mono fun k _ h => by subst h; exact .inr (.inl rfl)
   ·exact (gives_move (x := .tmp 0) rfl rfl (hS.stepV (o := 10) rfl)).toS
   ·exact (gives_nil (x := .tmp 28) rfl (show σ 10 = _ from hS.val 10 _ rfl (hp 10 rfl)) (hS.stepV (o := 11) rfl)).toS
   ·exact (gives_field (T := 99) (x := .tmp 29) (f := 1) rfl (show σ 11 = _ from hS.val 11 _ rfl (hp 11 rfl)) (run_field_P1 _ _) (hS.stepV (o := 12) rfl)).toS
   ·have n23 : Ls 23 = false := by
     cases hl : Ls 23 with
     | false => rfl
     | true => have := (hdn 17 13 (hdn 23 17 hl rfl) rfl); rw [hun] at this; cases this
    have c := hS.cells.2.1
    rw [n23] at c
    exact (gives_load (T := 26) (x := .tmp 30) rfl (show σ 12 = _ from hS.val 12 _ rfl (hp 12 rfl)) (run_load_nums _ _ _ _ c) (hS.stepV (o := 13) rfl)).toS
   ·exact (gives_move (x := .tmp 5) rfl rfl (hS.stepV (o := 14) rfl)).toS
   ·exact (gives_move (x := .tmp 5) rfl rfl (hS.stepV (o := 15) rfl)).toS
   ·exact (gives_bin (b := .add) (T := 3) (T' := 3) (x := .tmp 33) (y := .const (.int .i64 1)) rfl (show σ 15 = _ from hS.val 15 _ rfl (hp 15 rfl)) rfl (run_addI _ _ _ _ hi60) (hS.stepV (o := 16) rfl)).toS
   ·have h13' : σ 13 = _ := hS.val 13 _ rfl (hp 13 rfl)
    have h14' : σ 14 = _ := hS.val 14 _ rfl (hp 14 rfl)
    have h16' : σ 16 = _ := hS.val 16 _ rfl (hp 16 rfl)
    have ho := hS.fN.2 hun
    obtain ⟨cN, hcN⟩ := ownS_typ ho rfl
    refine (gives_call (f := 150) (args := [.slice (some ⟨gN, 0, none⟩) nums.length nc, .int .i64 (i : Int), .int .i64 ((i : Int) + 1)]) rfl rfl (by show [σ 13, σ 14, σ 16] = _; rw [h13', h14', h16']) (by go_simp) ((delN_any gN nc i nums wx ho hn60 hin).mono ?_)).toS
    rintro e w' ⟨rfl, ho', hc⟩
    refine ⟨_, rfl, hS.stepW (o := 17) rfl ?_ ?_ ?_ ?_⟩
    ·exact hS.fA.keep (keepsT_chg hc hcN (by decide))
    ·exact ⟨fun _ => ⟨rfl, ho'⟩, fun h => by simp at h⟩
    ·exact keepsT_chg hc hcN (by decide) _ _ hS.fM
    ·exact hc.mono fun k _ h => by subst h; exact .inr (.inr rfl)
   ·exact (gives_nil (x := .tmp 18) rfl (show σ 0 = _ from hS.val 0 _ rfl (hp 0 rfl)) (hS.stepV (o := 18) rfl)).toS
   ·exact (gives_field (T := 99) (x := .tmp 36) (f := 0) rfl (show σ 18 = _ from hS.val 18 _ rfl (hp 18 rfl)) (run_field_P0 _ _) (hS.stepV (o := 19) rfl)).toS
   ·have n23 : Ls 23 = false := by
     cases hl : Ls 23 with
     | false => rfl
     | true => have := (hdn 23 20 hl rfl); rw [hun] at this; cases this
    have e9 := (hS.fA.1 (hp 9 rfl)).1
    have fM := hS.fM
    rw [hun, n23] at fM
    simp only [Bool.false_eq_true, if_false] at fM
    have st := heap_setCell_same _ m 0 _ _ (.slice (some ⟨gA, 0, none⟩) (pts.length - 1) pc) fM
    have c := hS.cells
    refine gives_store (T := 41) (x := .tmp 37) (y := .tmp 27) rfl (show σ 19 = _ from hS.val 19 _ rfl (hp 19 rfl)) (show σ 9 = _ from e9) (run_store_pts _ _ _ _ _ _ _ c.1 (c.2.2 0)) (hS.stepW (o := 20) rfl ?_ ?_ ?_ ?_)
    ·exact hS.fA.keep (keepsT_set fM (by decide))
    ·exact hS.fN.keep (keepsT_set fM (by decide))
    ·rw [st]; simp [n23]
    ·exact ⟨rfl, rfl, rfl, by simp [World.setCell], fun k _ hk => Below.heap_setCell _ _ _ _ fun e => hk (.inl e)⟩
   ·exact (gives_nil (x := .tmp 19) rfl (show σ 1 = _ from hS.val 1 _ rfl (hp 1 rfl)) (hS.stepV (o := 21) rfl)).toS
   ·exact (gives_field (T := 99) (x := .tmp 38) (f := 1) rfl (show σ 21 = _ from hS.val 21 _ rfl (hp 21 rfl)) (run_field_P1 _ _) (hS.stepV (o := 22) rfl)).toS
   ·have h20 : Ls 20 = true := hp 20 rfl
    have e17 := (hS.fN.1 (hp 17 rfl)).1
    have fM := hS.fM
    rw [hun, h20] at fM
    simp only [Bool.false_eq_true, if_false, if_true] at fM
    have st := heap_setCell_same _ m 1 _ _ (.slice (some ⟨gN, 0, none⟩) (nums.length - 1) nc) fM
    have c := hS.cells
    refine gives_store (T := 26) (x := .tmp 39) (y := .tmp 35) rfl (show σ 22 = _ from hS.val 22 _ rfl (hp 22 rfl)) (show σ 17 = _ from e17) (run_store_nums _ _ _ _ _ _ _ c.2.1 (c.2.2 1)) (hS.stepW (o := 23) rfl ?_ ?_ ?_ ?_)
    ·exact hS.fA.keep (keepsT_set fM (by decide))
    ·exact hS.fN.keep (keepsT_set fM (by decide))
    ·rw [st]; simp [h20]
    ·exact ⟨rfl, rfl, rfl, by simp [World.setCell], fun k _ hk => Below.heap_setCell _ _ _ _ fun e => hk (.inl e)⟩
  ·intro Ls σ wx hS hall
   have h9 := hall 9 (by omega)
   have h17 := hall 17 (by omega)
   have h20 := hall 20 (by omega)
   have h23 := hall 23 (by omega)
   have fM := hS.fM
   rw [h20, h23] at fM
   simp only [if_true] at fM
   have HFIN : Hid (RemP w wx m pts nums ever (.slice (some ⟨gA, 0, none⟩) pts.length pc) (.slice (some ⟨gN, 0, none⟩) nums.length nc) n 0) :=
    .inr ⟨HM.out, rfl, i, HI.out.1, HI.out.2, _, _, ⟨fM, (hS.fA.1 h9).2, (hS.fN.1 h17).2⟩, (Chg.of_below HB1.out).trans hS.chg fun _ _ h => h, fun _ h => h, fun _ h => h⟩
   clear fM hS
   refine ⟨?_⟩
   simp only [lay, Act.put, List.drop_succ_cons, List.drop_zero, List.setIfInBounds_toArray, List.set_cons_succ, List.set_cons_zero]
   go_wp2_with fail
   go_ret
   exact ⟨0, rfl, HFIN.out⟩
 ·have hdf : decide (n ∈ nums) = false := decide_eq_false hmem
  have HM : Hid (n ∉ nums) := hmem
  clear hmem
  go_enter Tryz.func126, Tryz.ntmps126
  go_wp2_with (go_at_call 148; refine (bsearch_any _ _ nums n _ hn60 HNA.out HIN.out).mono ?_; rintro e w1 ⟨i, rfl, hi, hb1⟩; rw [hdf])
  go_ret
  exact ⟨4, rfl, .inl ⟨HM.out, rfl, hb1⟩⟩
end Go.Proofs.YtgpapegpdfonpaaGreatDoor
