/-
  The document's model: between, Flat, rising, proper.
  The document's model: proper.
-/
import Derived.Test.YtgpapegpdfonpaaGreatDoorMathJ
import Derived.Test.YtgpapegpdfonpaaGreatDoorRefAC
import Derived.BigQuiet
import Derived.BigRegion
import Derived.Deep.CutRange
import Derived.Deep.DeepCutAuto
import Derived.Deep.CutBlock
set_option linter.unusedVariables false
set_option linter.unusedSimpArgs false
namespace Go.Proofs.YtgpapegpdfonpaaGreatDoor
open Go.RowKit
def TrisAt (w : World) (g : Nat) (ts : List T3) : Prop := ∀ j, j < ts.length → w.cell? ⟨g, j * 3, none⟩ = some (iv (ts.getD j (0, 0, 0)).1) ∧ w.cell? ⟨g, j * 3 + 1, none⟩ = some (iv (ts.getD j (0, 0, 0)).2.1) ∧ w.cell? ⟨g, j * 3 + 2, none⟩ = some (iv (ts.getD j (0, 0, 0)).2.2)
theorem TrisAt.below {w w' : World} {g : Nat} {ts : List T3} (h : TrisAt w g ts) (hb : Below w.heap.size w w') (hg : g < w.heap.size) : TrisAt w' g ts := fun j hj =>
 ⟨(hb.cell (p := ⟨g, _, none⟩) hg).trans (h j hj).1, (hb.cell (p := ⟨g, _, none⟩) hg).trans (h j hj).2.1, (hb.cell (p := ⟨g, _, none⟩) hg).trans (h j hj).2.2⟩
def CellsT (w : World) (b : Nat) (t : T3) : Prop := ∀ i, i < 3 → w.cell? ⟨b, i, none⟩ = some (iv (nth3 t i))
theorem cells3 {w : World} {b : Nat} {t : T3} (h0 : w.cell? ⟨b, 0, none⟩ = some (iv t.1)) (h1 : w.cell? ⟨b, 1, none⟩ = some (iv t.2.1)) (h2 : w.cell? ⟨b, 2, none⟩ = some (iv t.2.2)) : CellsT w b t := by
 intro i hi
 match i, hi with
 | 0, _ => exact h0
 | 1, _ => exact h1
 | 2, _ => exact h2
theorem sd_sideN (l : List Pt) (a b c : Nat) : sd (ptAt l a) (ptAt l b) (ptAt l c) = sideN (l.getD a (0, 0)).1 (l.getD a (0, 0)).2 (l.getD b (0, 0)).1 (l.getD b (0, 0)).2 (l.getD c (0, 0)).1 (l.getD c (0, 0)).2 := rfl
set_option maxHeartbeats 400000 in
theorem between_any (ax ay bx by' cx cy : Int) (w : World) (a : Near ax ay) (b : Near bx by') (c : Near cx cy) :
  Calls Tryz.prog 123 #[.agg #[.int .i64 ax, .int .i64 ay], .agg #[.int .i64 bx, .int .i64 by'], .agg #[.int .i64 cx, .int .i64 cy]] w fun e w' =>
   e = .returned (.bool (decide (dt (ax, ay) (bx, by') (cx, cy) < 0))) ∧ Below w.heap.size w w' := by
 obtain ⟨a1, a2, a3, a4⟩ := a; obtain ⟨b1, b2, b3, b4⟩ := b; obtain ⟨c1, c2, c3, c4⟩ := c
 have m1 := @mul_bd (cx - ax) (cx - bx) 16000 16000 (by omega) (by omega) (by omega) (by omega)
 have m2 := @mul_bd (cy - ay) (cy - by') 16000 16000 (by omega) (by omega) (by omega) (by omega)
 unfold dt
 dsimp only
 go_enter Tryz.func123, Tryz.ntmps123
 go_wp2
 go_ret
 exact ⟨rfl, below3 _ _ _ _⟩
set_option maxRecDepth 100000 in
set_option maxHeartbeats 2000000 in
theorem flat_any (b off cap : Nat) (l : List Pt) (w : World) (hl : l.length ≤ 60) (hn : AllNear l) (hb : b < w.heap.size) (hp : PtsAt w b off l) :
  Calls Tryz.prog 92 #[.slice (some ⟨b, off, none⟩) l.length cap] w fun e w' =>
   ∃ B, e = .returned (.bool B) ∧ (B = true ↔ ∀ i, 2 ≤ i → i < l.length → sd (ptAt l 0) (ptAt l 1) (ptAt l i) = 0) ∧ Below w.heap.size w w' := by
 have HN : Hid (AllNear l) := hn
 clear hn
 go_enter Tryz.func92, Tryz.ntmps92
 go_wp2
 go_loopw [3] (fun i wr => ∃ k : Nat, 2 ≤ k ∧ k ≤ 62 ∧ i = .int .i64 k ∧ (∀ j, 2 ≤ j → j < k → j < l.length → sd (ptAt l 0) (ptAt l 1) (ptAt l j) = 0) ∧ Below w.heap.size w wr) (fun i _ => 62 - (intOf i).toNat)
 case atStart => exact ⟨2, by omega, by omega, rfl, fun j h1 h2 => by omega, Below.refl _ _⟩
 case round =>
  obtain ⟨k, hk2, hk62, rfl, hz, hbr⟩ := hrel
  have HZ : Hid (∀ j, 2 ≤ j → j < k → j < l.length → sd (ptAt l 0) (ptAt l 1) (ptAt l j) = 0) := hz
  clear hz
  by_cases hlt : k < l.length
  ·have hpr := hp.below hbr hb
   obtain ⟨d0, d1⟩ := hpr 0 (by omega)
   obtain ⟨d2, d3⟩ := hpr 1 (by omega)
   obtain ⟨d4, d5⟩ := hpr k hlt
   simp only [Nat.zero_mul, Nat.one_mul, Nat.add_zero] at d0 d1 d2 d3
   have nA : Near (l.getD 0 (0, 0)).1 (l.getD 0 (0, 0)).2 := HN.out 0 (by omega)
   have nB : Near (l.getD 1 (0, 0)).1 (l.getD 1 (0, 0)).2 := HN.out 1 (by omega)
   have nC : Near (l.getD k (0, 0)).1 (l.getD k (0, 0)).2 := HN.out k hlt
   have SC := fun W => rside_any _ _ _ _ _ _ W nA nB nC
   have hS : sd (ptAt l 0) (ptAt l 1) (ptAt l k) = sideN (l.getD 0 (0, 0)).1 (l.getD 0 (0, 0)).2 (l.getD 1 (0, 0)).1 (l.getD 1 (0, 0)).2 (l.getD k (0, 0)).1 (l.getD k (0, 0)).2 := rfl
   have HS : Hid (sd (ptAt l 0) (ptAt l 1) (ptAt l k) = sideN (l.getD 0 (0, 0)).1 (l.getD 0 (0, 0)).2 (l.getD 1 (0, 0)).1 (l.getD 1 (0, 0)).2 (l.getD k (0, 0)).1 (l.getD k (0, 0)).2) := hS
   clear hS nA nB nC hpr hp
   generalize sideN (l.getD 0 (0, 0)).1 (l.getD 0 (0, 0)).2 (l.getD 1 (0, 0)).1 (l.getD 1 (0, 0)).2 (l.getD k (0, 0)).1 (l.getD k (0, 0)).2 = S at *
   generalize (l.getD 0 (0, 0)).1 = ax at *
   generalize (l.getD 0 (0, 0)).2 = ay at *
   generalize (l.getD 1 (0, 0)).1 = bx at *
   generalize (l.getD 1 (0, 0)).2 = by2 at *
   generalize (l.getD k (0, 0)).1 = cx at *
   generalize (l.getD k (0, 0)).2 = cy at *
   have gr : b < wr.heap.size := Nat.lt_of_lt_of_le hb hbr.size
   have y0 : (0 : Int) < (l.length : Int) := by omega
   have y00 : 0 < l.length := by omega
   have y1 : (1 : Int) < (l.length : Int) := by omega
   have y2 : (0 : Int) ≤ (k : Int) := by omega
   have y3 : (k : Int) < (l.length : Int) := by omega
   have y4 : IntKind.i64.wrap ((k : Int) + 1) = (k : Int) + 1 := wrap_id (by omega) (by omega)
   by_cases hS0 : S = 0
   ·have HS0 : Hid (sd (ptAt l 0) (ptAt l 1) (ptAt l k) = 0) := HS.out.trans hS0
    subst hS0
    have hsg : sg 0 = 0 := rfl
    rw [hsg] at SC
    go_wp2_with fail
    go_region_held3 (fun w' => Below wr.heap.size wr w' ∧ ∀ b o, b < wr.heap.size → w'.cell? ⟨b, o, none⟩ = wr.cell? ⟨b, o, none⟩) (first | exact keep0 _ | exact keep1 (by assumption) hb1)
     (first | (go_at_call 87; refine (SC _).mono ?_; rintro e w' ⟨rfl, hb1⟩))
    rename_i hSS
    have hbr2 := hbr.trans (hSS.1.mono hbr.size)
    clear hSS hb1 SC d0 d1 d2 d3 d4 d5
    go_wp2
    go_roundw
    case rel =>
     refine ⟨k + 1, by omega, by omega, by go_num, fun j h1 h2 h3 => ?_, hbr2⟩
     by_cases e : j = k
     ·subst e; exact HS0.out
     ·exact HZ.out j h1 (by omega) h3
    case measure => simp [intOf]; omega
   ·have hsg : ¬ sg S = 0 := fun e => hS0 ((sg_zero_iff _).1 e)
    have HS0 : Hid (¬ sd (ptAt l 0) (ptAt l 1) (ptAt l k) = 0) := fun e => hS0 (HS.out.symm.trans e)
    generalize sg S = G at *
    have hG : (G != 0) = true := by simpa using hsg
    clear hS0 hsg
    go_wp2_with fail
    go_region_held3 (fun w' => Below wr.heap.size wr w' ∧ ∀ b o, b < wr.heap.size → w'.cell? ⟨b, o, none⟩ = wr.cell? ⟨b, o, none⟩) (first | exact keep0 _ | exact keep1 (by assumption) hb1)
     (first | (go_at_call 87; refine (SC _).mono ?_; rintro e w' ⟨rfl, hb1⟩))
    rename_i hSS
    have hbr2 := hbr.trans (hSS.1.mono hbr.size)
    clear hSS hb1 SC d0 d1 d2 d3 d4 d5
    go_wp2
    go_ret
    exact ⟨false, rfl, ⟨fun h => (by cases h), fun h => absurd (h k hk2 hlt) HS0.out⟩, hbr2⟩
  ·go_wp2
   go_ret
   exact ⟨true, rfl, ⟨fun _ j h1 h2 => HZ.out j h1 (by omega) h2, fun _ => rfl⟩, hbr⟩
theorem t3lt_at {s t : T3} (h : t3lt s t) : ∃ i, i < 3 ∧ nth3 s i < nth3 t i ∧ ∀ j, j < i → nth3 s j = nth3 t j := by
 unfold t3lt at h
 rcases h with h | ⟨h, h' | ⟨h', h''⟩⟩
 ·exact ⟨0, by omega, h, fun j hj => by omega⟩
 ·refine ⟨1, by omega, h', fun j hj => ?_⟩
  have : j = 0 := by omega
  subst this; exact h
 ·refine ⟨2, by omega, h'', fun j hj => ?_⟩
  have : j = 0 ∨ j = 1 := by omega
  rcases this with rfl | rfl
  ·exact h
  ·exact h'
set_option maxRecDepth 100000 in
set_option maxHeartbeats 2000000 in
theorem rising_any (s t : T3) (w : World) (h : t3lt s t) :
  Calls Tryz.prog 122 #[.agg #[iv s.1, iv s.2.1, iv s.2.2], .agg #[iv t.1, iv t.2.1, iv t.2.2]] w fun e w' => e = .returned (.bool true) ∧ Below w.heap.size w w' := by
 obtain ⟨m, hm3, hml, hme⟩ := t3lt_at h
 have HME : Hid (∀ j, j < m → nth3 s j = nth3 t j) := hme
 clear h hme
 go_enter Tryz.func122, Tryz.ntmps122
 go_wp2_with fail
 generalize hW : (w.alloc (.cells #[.int .i64 s.1, .int .i64 s.2.1, .int .i64 s.2.2] 53)).alloc (.cells #[.int .i64 t.1, .int .i64 t.2.1, .int .i64 t.2.2] 53) = W
 have hb0 : Below w.heap.size w W := by rw [← hW]; exact below2 _ _ _
 have C1 : CellsT W w.heap.size s := by
  rw [← hW]
  apply cells3 <;> (rw [World.cell?_alloc_past _ _ _ (by simp), World.cell?_alloc_at _ _ _ _ (by simp)]; rfl)
 have C2 : CellsT W (w.heap.size + 1) t := by
  rw [← hW]
  apply cells3 <;> (rw [World.cell?_alloc_at _ _ _ _ (by simp)]; rfl)
 clear hW
 generalize w.heap.size + 1 = B2 at *
 have hbW : ∀ N, Below w.heap.size w (W.drewN N) := fun N => below_drewN hb0
 generalize hB1 : w.heap.size = B1 at *
 go_loopw [5] (fun i wr => ∃ k : Nat, k ≤ m ∧ i = .int .i64 k ∧ ∃ n, wr = W.drewN n) (fun i _ => 3 - (intOf i).toNat)
 case atStart => exact ⟨0, by omega, rfl, 0, rfl⟩
 case round =>
  obtain ⟨i, hi, rfl, n, rfl⟩ := hrel
  have c0 := C1 i (by omega)
  have c1 := C2 i (by omega)
  have y0 : (0 : Int) ≤ (i : Int) := by omega
  have y1 : (i : Int) < 3 := by omega
  have y2 : IntKind.i64.wrap ((i : Int) + 1) = (i : Int) + 1 := wrap_id (by omega) (by omega)
  by_cases him : i = m
  ·subst him
   generalize nth3 s i = x1 at *
   generalize nth3 t i = x2 at *
   have e1 : (x1 != x2) = true := by simp; omega
   have e2 : decide (x1 < x2) = true := decide_eq_true hml
   clear HME
   go_wp2_with fail
   go_quiet (fail)
   go_wp2_with fail
   go_quiet (fail)
   go_wp2
   go_ret
   rw [hB1]
   exact ⟨rfl, by first | exact hbW _ | (simp only [World.drewN_drewN]; exact hbW _)⟩
  ·have e0 := HME.out i (by omega)
   rw [e0] at c0
   generalize nth3 t i = x2 at *
   have e1 : (x2 != x2) = false := by simp
   clear e0
   go_wp2_with fail
   go_quiet (fail)
   go_wp2
   go_roundw
   case rel => exact ⟨i + 1, by omega, by go_num, _, by first | rfl | simp [World.drewN_drewN]⟩
   case measure => simp [intOf]; omega
end Go.Proofs.YtgpapegpdfonpaaGreatDoor

namespace Go.Proofs.YtgpapegpdfonpaaGreatDoor
open Go.RowKit
theorem is_tri_at {l : List Pt} {ts : List T3} (F : IsOk l ts) {i : Nat} (hi : i < ts.length) :
  ∃ a b c : Nat, ts.getD i (0, 0, 0) = ((a : Int), (b : Int), (c : Int)) ∧ a < b ∧ a < c ∧ b < l.length ∧ c < l.length ∧ 0 < sd (ptAt l a) (ptAt l b) (ptAt l c) ∧ (∀ d, d < l.length → cc (ptAt l a) (ptAt l b) (ptAt l c) (ptAt l d) ≤ 0) := by
 have e : ts.getD i (0, 0, 0) = ts[i] := by simp [hi]
 rw [e]
 obtain ⟨⟨h0, h1, h2, h3, h4⟩, h5, h6⟩ := F.tri _ (List.getElem_mem hi)
 generalize ts[i] = t at *
 obtain ⟨x, y, z⟩ := t
 dsimp only at *
 refine ⟨x.toNat, y.toNat, z.toNat, ?_, by omega, by omega, by omega, by omega, h5, h6⟩
 rw [Int.toNat_of_nonneg h0, Int.toNat_of_nonneg (by omega), Int.toNat_of_nonneg (by omega)]
theorem pw_at {R : T3 → T3 → Prop} {ts : List T3} (h : ts.Pairwise R) {i j : Nat} (hij : i < j) (hj : j < ts.length) : R (ts.getD i (0, 0, 0)) (ts.getD j (0, 0, 0)) := by
 have e1 : ts.getD i (0, 0, 0) = ts[i] := by simp [show i < ts.length by omega]
 have e2 : ts.getD j (0, 0, 0) = ts[j] := by simp [hj]
 rw [e1, e2]
 exact List.pairwise_iff_getElem.1 h i j (by omega) hj hij
set_option maxRecDepth 100000 in
set_option maxHeartbeats 8000000 in
theorem proper_any (b off cap gt ct : Nat) (l : List Pt) (ts : List T3) (w : World) (hl : l.length ≤ 60) (hn : AllNear l) (hb : b < w.heap.size) (hp : PtsAt w b off l) (hg : gt < w.heap.size) (ht : TrisAt w gt ts) (htl : ts.length ≤ 4000) (F : IsOk l ts) :
  Calls Tryz.prog 93 #[.slice (some ⟨b, off, none⟩) l.length cap, .slice (some ⟨gt, 0, none⟩) ts.length ct] w fun e w' => e = .returned (.bool true) ∧ Below w.heap.size w w' := by
 have HN : Hid (AllNear l) := hn
 have FO : Hid (IsOk l ts) := F
 clear hn F
 go_enter Tryz.func93, Tryz.ntmps93
 go_wp2
 go_loopw [5] (fun i wr => ∃ k : Nat, k ≤ ts.length ∧ i = .int .i64 k ∧ Below w.heap.size w wr) (fun i _ => ts.length - (intOf i).toNat)
 case atStart => exact ⟨0, Nat.zero_le _, rfl, Below.refl _ _⟩
 case round =>
  obtain ⟨k, hk, rfl, hbr⟩ := hrel
  by_cases hlt : k < ts.length
  ·obtain ⟨x, y, z, hxyz, hxy, hxz, hyl, hzl, hsd, _⟩ := is_tri_at FO.out hlt
   obtain ⟨t0, t1, t2⟩ := (ht.below hbr hg) k hlt
   have HXYZ : Hid (ts.getD k (0, 0, 0) = ((x : Int), (y : Int), (z : Int))) := hxyz
   rw [hxyz] at t0 t1 t2
   dsimp only at t0 t1 t2
   clear hxyz
   have y0 : (0 : Int) ≤ (k : Int) := by omega
   have y1 : (k : Int) < (ts.length : Int) := by omega
   go_wp2_with fail
   go_quiet (fail)
   go_wp2_with fail
   have hbv : Below w.heap.size w (wr.drewN nq) := below_drewN hbr
   clear t0 t1 t2 hbr
   generalize wr.drewN nq = V at *
   have hpr := hp.below hbv hb
   obtain ⟨d0, d1⟩ := hpr x (by omega)
   obtain ⟨d2, d3⟩ := hpr y hyl
   obtain ⟨d4, d5⟩ := hpr z hzl
   have nA : Near (l.getD x (0, 0)).1 (l.getD x (0, 0)).2 := HN.out x (by omega)
   have nB : Near (l.getD y (0, 0)).1 (l.getD y (0, 0)).2 := HN.out y hyl
   have nC : Near (l.getD z (0, 0)).1 (l.getD z (0, 0)).2 := HN.out z hzl
   have SC := fun W => rside_any _ _ _ _ _ _ W nA nB nC
   rw [sd_sideN] at hsd
   have hs1 : 0 < sg (sideN (l.getD x (0, 0)).1 (l.getD x (0, 0)).2 (l.getD y (0, 0)).1 (l.getD y (0, 0)).2 (l.getD z (0, 0)).1 (l.getD z (0, 0)).2) := by unfold sg; rw [if_pos hsd]; omega
   clear hsd nA nB nC hpr
   generalize sg (sideN (l.getD x (0, 0)).1 (l.getD x (0, 0)).2 (l.getD y (0, 0)).1 (l.getD y (0, 0)).2 (l.getD z (0, 0)).1 (l.getD z (0, 0)).2) = S at *
   generalize (l.getD x (0, 0)).1 = ax at *
   generalize (l.getD x (0, 0)).2 = ay at *
   generalize (l.getD y (0, 0)).1 = bx at *
   generalize (l.getD y (0, 0)).2 = by2 at *
   generalize (l.getD z (0, 0)).1 = cx at *
   generalize (l.getD z (0, 0)).2 = cy at *
   have gr : b < V.heap.size := Nat.lt_of_lt_of_le hb hbv.size
   have y2 : (0 : Int) ≤ (x : Int) := by omega
   have y3 : (x : Int) < (l.length : Int) := by omega
   have y4 : (0 : Int) ≤ (y : Int) := by omega
   have y5 : (y : Int) < (l.length : Int) := by omega
   have y6 : (0 : Int) ≤ (z : Int) := by omega
   have y7 : (z : Int) < (l.length : Int) := by omega
   have f1 : decide ((x : Int) < 0) = false := decide_eq_false (by omega)
   have f2 : decide ((y : Int) ≤ (x : Int)) = false := decide_eq_false (by omega)
   have f3 : decide ((z : Int) ≤ (x : Int)) = false := decide_eq_false (by omega)
   have f4 : decide ((l.length : Int) ≤ (y : Int)) = false := decide_eq_false (by omega)
   have f5 : decide ((l.length : Int) ≤ (z : Int)) = false := decide_eq_false (by omega)
   have f2' : ¬ y ≤ x := by omega
   have f3' : ¬ z ≤ x := by omega
   have f4' : ¬ l.length ≤ y := by omega
   have f5' : ¬ l.length ≤ z := by omega
   have f6 : decide (S ≤ 0) = false := decide_eq_false (by omega)
   go_region_held3 (fun w' => Below V.heap.size V w' ∧ ∀ b o, b < V.heap.size → w'.cell? ⟨b, o, none⟩ = V.cell? ⟨b, o, none⟩) (first | exact keep0 _ | exact keep1 (by assumption) hb1)
    (first | (go_at_call 87; refine (SC _).mono ?_; rintro e w' ⟨rfl, hb1⟩))
   rename_i hSS
   have hb2 := hbv.trans (hSS.1.mono hbv.size)
   clear hSS hb1 SC d0 d1 d2 d3 d4 d5 hbv gr f1 f2 f3 f4 f5 f2' f3' f4' f5'
   generalize w' = V2 at *
   have x3 : IntKind.i64.wrap ((k : Int) + 1) = (k : Int) + 1 := wrap_id (by omega) (by omega)
   by_cases hk0 : k = 0
   ·have g0 : decide ((0 : Int) < (k : Int)) = false := decide_eq_false (by omega)
    go_wp2
    go_roundw
    case rel => exact ⟨k + 1, by omega, by go_num, hb2⟩
    case measure => simp [intOf]; omega
   ·obtain ⟨j, rfl⟩ : ∃ j, k = j + 1 := ⟨k - 1, by omega⟩
    obtain ⟨t0, t1, t2⟩ := (ht.below hb2 hg) j (by omega)
    obtain ⟨s0, s1, s2⟩ := (ht.below hb2 hg) (j + 1) hlt
    have RC := fun W => rising_any _ _ W (pw_at FO.out.srt (show j < j + 1 by omega) hlt)
    have gr : gt < V2.heap.size := Nat.lt_of_lt_of_le hg hb2.size
    clear HXYZ
    generalize ts.getD j (0, 0, 0) = p at *
    generalize ts.getD (j + 1) (0, 0, 0) = q at *
    generalize p.1 = p0 at *
    generalize p.2.1 = p1 at *
    generalize p.2.2 = p2 at *
    generalize q.1 = q0 at *
    generalize q.2.1 = q1 at *
    generalize q.2.2 = q2 at *
    have x4 : IntKind.i64.wrap (j : Int) = (j : Int) := wrap_id (by omega) (by omega)
    have x5 : (0 : Int) < (j : Int) + 1 := by omega
    have x6 : (0 : Int) ≤ (j : Int) := by omega
    have x7 : (j : Int) < (ts.length : Int) := by omega
    have x8 : (0 : Int) ≤ (j : Int) + 1 := by omega
    have x9 : (j : Int) + 1 < (ts.length : Int) := by omega
    go_wp2_with fail
    go_region_held3 (fun w' => Below V2.heap.size V2 w' ∧ ∀ b o, b < V2.heap.size → w'.cell? ⟨b, o, none⟩ = V2.cell? ⟨b, o, none⟩) (first | exact keep0 _ | exact keep1 (by assumption) hb1)
     (first | (go_at_call 122; refine (RC _).mono ?_; rintro e w' ⟨rfl, hb1⟩))
    rename_i hSS
    have hb3 := hb2.trans (hSS.1.mono hb2.size)
    clear hSS hb1 RC t0 t1 t2 s0 s1 s2
    go_wp2
    go_roundw
    case rel => exact ⟨j + 1 + 1, by omega, by go_num, hb3⟩
    case measure => simp [intOf]; omega
  ·go_wp2
   go_ret
   exact ⟨rfl, hbr⟩
end Go.Proofs.YtgpapegpdfonpaaGreatDoor
