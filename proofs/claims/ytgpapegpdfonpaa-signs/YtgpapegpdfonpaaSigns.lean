/-
  The walk of the statement on signs.
-/
import Derived.Test.YtgpapegpdfonpaaWalksD
import Derived.Test.YtgpapegpdfonpaaSignsMath
import Derived.Deep.Cut
namespace Go.Proofs.Ytgpapegpdfonpaa
set_option linter.unusedVariables false
set_option linter.unusedSimpArgs false
open Go.RowKit

theorem four_vars {W wx V1 V2 V3 V4 : World} {b9 b10 b11 b12 : Nat} {T : TypeId} {x1 y1 x2 y2 x3 y3 x4 y4 : Value} (h : Below W.heap.size W wx) (g9 : W.heap.size ≤ b9) (g10 : W.heap.size ≤ b10) (g11 : W.heap.size ≤ b11) (g12 : W.heap.size ≤ b12)
    (n1 : b9 ≠ b10) (n2 : b9 ≠ b11) (n3 : b9 ≠ b12) (n4 : b10 ≠ b11) (n5 : b10 ≠ b12) (n6 : b11 ≠ b12) (h9 : wx.heap[b9]? = some (.cells #[.int .i64 0, .int .i64 0] T)) (h10 : wx.heap[b10]? = some (.cells #[.int .i64 0, .int .i64 0] T)) (h11 : wx.heap[b11]? = some (.cells #[.int .i64 0, .int .i64 0] T)) (h12 : wx.heap[b12]? = some (.cells #[.int .i64 0, .int .i64 0] T))
    (e1 : (wx.setCell ⟨b9, 0, none⟩ x1).setCell ⟨b9, 1, none⟩ y1 = V1) (e2 : (V1.setCell ⟨b10, 0, none⟩ x2).setCell ⟨b10, 1, none⟩ y2 = V2) (e3 : (V2.setCell ⟨b11, 0, none⟩ x3).setCell ⟨b11, 1, none⟩ y3 = V3) (e4 : (V3.setCell ⟨b12, 0, none⟩ x4).setCell ⟨b12, 1, none⟩ y4 = V4) :
    Below W.heap.size W V4 ∧ V4.heap[b9]? = some (.cells #[x1, y1] T) ∧ V4.heap[b10]? = some (.cells #[x2, y2] T) ∧ V4.heap[b11]? = some (.cells #[x3, y3] T) ∧ V4.heap[b12]? = some (.cells #[x4, y4] T) ∧ V4.heap.size = wx.heap.size := by
  obtain ⟨k1, k2, k3, k4, k5⟩ := three_vars h g9 g10 g11 n1 n2 n4 h9 h10 h11 e1 e2 e3
  subst e4
  refine ⟨put2_below k1 g12 _ _, ?_, ?_, ?_, ?_, by rw [put2_size, k5]⟩
  · rw [put2_ne _ n3, k2]
  · rw [put2_ne _ n5, k3]
  · rw [put2_ne _ n6, k4]
  · refine put2_at (z := #[.int .i64 0, .int .i64 0]) ?_ rfl _ _
    subst e1; subst e2; subst e3
    rw [put2_ne _ (Ne.symm n6), put2_ne _ (Ne.symm n5), put2_ne _ (Ne.symm n3), h12]

theorem keepR (W : World) : Below W.heap.size W W ∧ ∀ b o, b < W.heap.size → W.cell? ⟨b, o, none⟩ = W.cell? ⟨b, o, none⟩ := ⟨Below.refl _ _, fun _ _ _ => rfl⟩
theorem Near.neg {x y : Int} (h : Near x y) : Near (-x) y := ⟨by have := h.x2; omega, by have := h.x1; omega, h.y1, h.y2⟩
theorem Near.turn {x y : Int} (h : Near x y) : Near y x := ⟨h.y1, h.y2, h.x1, h.x2⟩

theorem kcircS_any (ax ay bx by' cx cy dx dy : Int) (w : World) (a : Near ax ay) (b : Near bx by') (c : Near cx cy) (d : Near dx dy) :
    Calls Try.prog 10 #[.agg #[.int .i64 ax, .int .i64 ay], .agg #[.int .i64 bx, .int .i64 by'], .agg #[.int .i64 cx, .int .i64 cy], .agg #[.int .i64 dx, .int .i64 dy]] w fun e w' =>
      e = .returned (.int .i64 (circS ax ay bx by' cx cy dx dy)) ∧ Below w.heap.size w w' := kcircle_any ax ay bx by' cx cy dx dy w a b c d

set_option maxRecDepth 100000 in
set_option maxHeartbeats 2000000 in
theorem signs_core (ax ay bx by' cx cy dx dy step px py qx qy rx ry sx sy : Int) (Z N M : Int) (w : World)
    (Ha : ∀ w, Calls Try.prog 8 #[pv ax ay, .int .i64 step] w fun e w' => e = .returned (pv px py) ∧ Below w.heap.size w w')
    (Hb : ∀ w, Calls Try.prog 8 #[pv bx by', .int .i64 step] w fun e w' => e = .returned (pv qx qy) ∧ Below w.heap.size w w')
    (Hc : ∀ w, Calls Try.prog 8 #[pv cx cy, .int .i64 step] w fun e w' => e = .returned (pv rx ry) ∧ Below w.heap.size w w')
    (Hd : ∀ w, Calls Try.prog 8 #[pv dx dy, .int .i64 step] w fun e w' => e = .returned (pv sx sy) ∧ Below w.heap.size w w')
    (np : Near px py) (nq : Near qx qy) (nr : Near rx ry) (ns : Near sx sy)
    (hZ : sideN px py qx qy rx ry = Z) (hN : sg Z = N) (hM : circS px py qx qy rx ry sx sy = M)
    (x1 : sg (sideN (-px) py (-qx) qy (-rx) ry) = -N) (x2 : sg (sideN qx qy rx ry px py) = N) (x3 : sg (sideN qx qy px py rx ry) = -N)
    (y1 : circS py px qy qx ry rx sy sx = M) (y2 : circS qx qy px py rx ry sx sy = M) (y3 : circS rx ry px py qx qy sx sy = M) (y4 : circS px py qx qy rx ry qx qy = 0)
    (m1 : -1 ≤ M) (m2 : M ≤ 1) (hc : (0 < Z ∧ N = 1) ∨ (Z < 0 ∧ N = -1) ∨ (Z = 0 ∧ N = 0 ∧ M = 0)) :
    Calls Try.prog 3 #[pv ax ay, pv bx by', pv cx cy, pv dx dy, .int .i64 step] w fun e w' => e = .returned (.bool true) ∧ Below w.heap.size w w' := by
  go_enter Try.func3, Try.ntmps3
  go_wp2_with fail
  generalize hW : ((((w.alloc (.cells #[.int .i64 ax, .int .i64 ay] 23)).alloc (.cells #[.int .i64 bx, .int .i64 by'] 23)).alloc (.cells #[.int .i64 cx, .int .i64 cy] 23)).alloc (.cells #[.int .i64 dx, .int .i64 dy] 23)) = W
  have hb0 : Below w.heap.size w W := by rw [← hW]; exact below4 _ _ _ _ _
  have hsz : W.heap.size = w.heap.size + 1 + 1 + 1 + 1 := by rw [← hW]; simp
  have k0 : W.cell? ⟨w.heap.size, 0, none⟩ = some (.int .i64 ax) := by rw [← hW]; simp [go_sem]
  have k1 : W.cell? ⟨w.heap.size, 1, none⟩ = some (.int .i64 ay) := by rw [← hW]; simp [go_sem]
  have k2 : W.cell? ⟨w.heap.size + 1, 0, none⟩ = some (.int .i64 bx) := by rw [← hW]; simp [go_sem]
  have k3 : W.cell? ⟨w.heap.size + 1, 1, none⟩ = some (.int .i64 by') := by rw [← hW]; simp [go_sem]
  have k4 : W.cell? ⟨w.heap.size + 1 + 1, 0, none⟩ = some (.int .i64 cx) := by rw [← hW, World.cell?_alloc_past _ _ _ (by simp), World.cell?_alloc_at _ _ _ _ (by simp)]; rfl
  have k5 : W.cell? ⟨w.heap.size + 1 + 1, 1, none⟩ = some (.int .i64 cy) := by rw [← hW, World.cell?_alloc_past _ _ _ (by simp), World.cell?_alloc_at _ _ _ _ (by simp)]; rfl
  have k6 : W.cell? ⟨w.heap.size + 1 + 1 + 1, 0, none⟩ = some (.int .i64 dx) := by rw [← hW, World.cell?_alloc_at _ _ _ _ (by simp)]; rfl
  have k7 : W.cell? ⟨w.heap.size + 1 + 1 + 1, 1, none⟩ = some (.int .i64 dy) := by rw [← hW, World.cell?_alloc_at _ _ _ _ (by simp)]; rfl
  clear hW
  refine wp_region_grow (m := 16) (by kernel_rfl) (by kernel_rfl) (dsts := [some 26, some 27, some 28, some 29, some 30, some 31, some 32, some 33, some 34, some 35, some 36, some 37, some 11, some 12, some 13, some 14]) rfl (by kernel_rfl) rfl (fun i v s e w => match i with
    | 0 => v = pv ax ay | 1 => v = .int .i64 step | 2 => v = pv px py
    | 3 => v = pv bx by' | 4 => v = .int .i64 step | 5 => v = pv qx qy
    | 6 => v = pv cx cy | 7 => v = .int .i64 step | 8 => v = pv rx ry
    | 9 => v = pv dx dy | 10 => v = .int .i64 step | 11 => v = pv sx sy
    | 12 => Fresh #[.int .i64 0, .int .i64 0] 23 v s e w
    | 13 => Fresh #[.int .i64 0, .int .i64 0] 23 v s e w
    | 14 => Fresh #[.int .i64 0, .int .i64 0] 23 v s e w
    | 15 => Fresh #[.int .i64 0, .int .i64 0] 23 v s e w
    | _ => True) ?_ ?_ ?_
  · intro i v s e w w' h hb
    rcases i with _|_|_|_|_|_|_|_|_|_|_|_|_|_|_|_|_ <;> first | exact h | exact Fresh.keep h hb | trivial
  · refine flS (flS (flS (flS (flS (flS (flS (flS (flS (flS (flS (flS (flS (flS (flS (flS fl0 ?_) ?_) ?_) ?_) ?_) ?_) ?_) ?_) ?_) ?_) ?_) ?_) ?_) ?_) ?_) ?_
    all_goals intro σ s e wx hbx hp
    · exact gives_load (T := 23) (x := .tmp 5) rfl rfl (run_load_pt _ _ _ ax ay ((hbx.cell (by simp; omega)).trans k0) ((hbx.cell (by simp; omega)).trans k1)) ⟨Below.refl _ _, rfl⟩
    · exact gives_move (x := .tmp 4) rfl rfl ⟨Below.refl _ _, rfl⟩
    · have h0 : σ 0 = pv ax ay := hp 0 rfl
      have h1 : σ 1 = .int .i64 step := hp 1 rfl
      exact gives_call (f := 8) (args := [pv ax ay, .int .i64 step]) rfl rfl (by show [σ 0, σ 1] = _; rw [h0, h1]) (by go_simp) ((Ha _).mono fun e w' h => ⟨_, h.1, h.2, rfl⟩)
    · exact gives_load (T := 23) (x := .tmp 6) rfl rfl (run_load_pt _ _ _ bx by' ((hbx.cell (by simp; omega)).trans k2) ((hbx.cell (by simp; omega)).trans k3)) ⟨Below.refl _ _, rfl⟩
    · exact gives_move (x := .tmp 4) rfl rfl ⟨Below.refl _ _, rfl⟩
    · have h0 : σ 3 = pv bx by' := hp 3 rfl
      have h1 : σ 4 = .int .i64 step := hp 4 rfl
      exact gives_call (f := 8) (args := [pv bx by', .int .i64 step]) rfl rfl (by show [σ 3, σ 4] = _; rw [h0, h1]) (by go_simp) ((Hb _).mono fun e w' h => ⟨_, h.1, h.2, rfl⟩)
    · exact gives_load (T := 23) (x := .tmp 7) rfl rfl (run_load_pt _ _ _ cx cy ((hbx.cell (by simp; omega)).trans k4) ((hbx.cell (by simp; omega)).trans k5)) ⟨Below.refl _ _, rfl⟩
    · exact gives_move (x := .tmp 4) rfl rfl ⟨Below.refl _ _, rfl⟩
    · have h0 : σ 6 = pv cx cy := hp 6 rfl
      have h1 : σ 7 = .int .i64 step := hp 7 rfl
      exact gives_call (f := 8) (args := [pv cx cy, .int .i64 step]) rfl rfl (by show [σ 6, σ 7] = _; rw [h0, h1]) (by go_simp) ((Hc _).mono fun e w' h => ⟨_, h.1, h.2, rfl⟩)
    · exact gives_load (T := 23) (x := .tmp 8) rfl rfl (run_load_pt _ _ _ dx dy ((hbx.cell (by simp; omega)).trans k6) ((hbx.cell (by simp; omega)).trans k7)) ⟨Below.refl _ _, rfl⟩
    · exact gives_move (x := .tmp 4) rfl rfl ⟨Below.refl _ _, rfl⟩
    · have h0 : σ 9 = pv dx dy := hp 9 rfl
      have h1 : σ 10 = .int .i64 step := hp 10 rfl
      exact gives_call (f := 8) (args := [pv dx dy, .int .i64 step]) rfl rfl (by show [σ 9, σ 10] = _; rw [h0, h1]) (by go_simp) ((Hd _).mono fun e w' h => ⟨_, h.1, h.2, rfl⟩)
    · exact gives_alloc (T := 23) rfl (run_alloc_pt _) ⟨below1 _ _, Fresh.new _ _ _⟩
    · exact gives_alloc (T := 23) rfl (run_alloc_pt _) ⟨below1 _ _, Fresh.new _ _ _⟩
    · exact gives_alloc (T := 23) rfl (run_alloc_pt _) ⟨below1 _ _, Fresh.new _ _ _⟩
    · exact gives_alloc (T := 23) rfl (run_alloc_pt _) ⟨below1 _ _, Fresh.new _ _ _⟩
  · intro σ s e wx hbx hF hge hdis
    have e2 : σ 2 = pv px py := hF 2 (by omega)
    have e5 : σ 5 = pv qx qy := hF 5 (by omega)
    have e8 : σ 8 = pv rx ry := hF 8 (by omega)
    have e11 : σ 11 = pv sx sy := hF 11 (by omega)
    obtain ⟨b12, e12, s12, t12, z12, hh12⟩ : Fresh #[.int .i64 0, .int .i64 0] 23 (σ 12) (s 12) (e 12) wx := hF 12 (by omega)
    obtain ⟨b13, e13, s13, t13, z13, hh13⟩ : Fresh #[.int .i64 0, .int .i64 0] 23 (σ 13) (s 13) (e 13) wx := hF 13 (by omega)
    obtain ⟨b14, e14, s14, t14, z14, hh14⟩ : Fresh #[.int .i64 0, .int .i64 0] 23 (σ 14) (s 14) (e 14) wx := hF 14 (by omega)
    obtain ⟨b15, e15, s15, t15, z15, hh15⟩ : Fresh #[.int .i64 0, .int .i64 0] 23 (σ 15) (s 15) (e 15) wx := hF 15 (by omega)
    have g12 := hge 12 (by omega)
    have g13 := hge 13 (by omega)
    have g14 := hge 14 (by omega)
    have g15 := hge 15 (by omega)
    have n1213 : b12 ≠ b13 := by have := hdis 12 13 (by omega) (by omega) (by omega); omega
    have n1214 : b12 ≠ b14 := by have := hdis 12 14 (by omega) (by omega) (by omega); omega
    have n1215 : b12 ≠ b15 := by have := hdis 12 15 (by omega) (by omega) (by omega); omega
    have n1314 : b13 ≠ b14 := by have := hdis 13 14 (by omega) (by omega) (by omega); omega
    have n1315 : b13 ≠ b15 := by have := hdis 13 15 (by omega) (by omega) (by omega); omega
    have n1415 : b14 ≠ b15 := by have := hdis 14 15 (by omega) (by omega) (by omega); omega
    refine ⟨?_⟩
    simp only [lay, Act.put, List.drop_succ_cons, List.drop_zero, List.setIfInBounds_toArray, List.set_cons_succ, List.set_cons_zero, e2, e5, e8, e11, e12, e13, e14, e15]
    clear hF hge hdis
    generalize σ 0 = σ0; generalize σ (0 + 1) = σ1; generalize σ (0 + 1 + 1 + 1) = σ3; generalize σ (0 + 1 + 1 + 1 + 1) = σ4; generalize σ (0 + 1 + 1 + 1 + 1 + 1 + 1) = σ6; generalize σ (0 + 1 + 1 + 1 + 1 + 1 + 1 + 1) = σ7; generalize σ (0 + 1 + 1 + 1 + 1 + 1 + 1 + 1 + 1 + 1) = σ9; generalize σ (0 + 1 + 1 + 1 + 1 + 1 + 1 + 1 + 1 + 1 + 1) = σ10
    have q0 := cell_of_heap hh12; have r0 := frozen_of_heap hh12
    have q2 := cell_of_heap hh13; have r1 := frozen_of_heap hh13
    have q4 := cell_of_heap hh14; have r2 := frozen_of_heap hh14
    have q6 := cell_of_heap hh15; have r3 := frozen_of_heap hh15
    go_upto_region 2 with fail
    clear q0 q2 q4 q6 r0 r1 r2 r3
    generalize hV1 : (wx.setCell ⟨b12, 0, none⟩ (.int .i64 px)).setCell ⟨b12, 1, none⟩ (.int .i64 py) = V1
    generalize hV2 : (V1.setCell ⟨b13, 0, none⟩ (.int .i64 qx)).setCell ⟨b13, 1, none⟩ (.int .i64 qy) = V2
    generalize hV3 : (V2.setCell ⟨b14, 0, none⟩ (.int .i64 rx)).setCell ⟨b14, 1, none⟩ (.int .i64 ry) = V3
    generalize hV4 : (V3.setCell ⟨b15, 0, none⟩ (.int .i64 sx)).setCell ⟨b15, 1, none⟩ (.int .i64 sy) = V4
    obtain ⟨hbV, hc12, hc13, hc14, hc15, hvs⟩ := four_vars hbx (by omega) (by omega) (by omega) (by omega) n1213 n1214 n1215 n1314 n1315 n1415 hh12 hh13 hh14 hh15 hV1 hV2 hV3 hV4
    have q0 := cell_of_heap hc12 0; have q1 := cell_of_heap hc12 1
    have q2 := cell_of_heap hc13 0; have q3 := cell_of_heap hc13 1
    have q4 := cell_of_heap hc14 0; have q5 := cell_of_heap hc14 1
    have q6 := cell_of_heap hc15 0; have q7 := cell_of_heap hc15 1
    simp only [List.getElem?_toArray, List.getElem?_cons_zero, List.getElem?_cons_succ] at q0 q1 q2 q3 q4 q5 q6 q7
    have y12 : b12 < V4.heap.size := by omega
    have y13 : b13 < V4.heap.size := by omega
    have y14 : b14 < V4.heap.size := by omega
    have y15 : b15 < V4.heap.size := by omega
    have hb4 : Below w.heap.size w V4 := hb0.trans (hbV.mono hb0.size)
    clear hV1 hV2 hV3 hV4 hbV hc12 hc13 hc14 hc15 hh12 hh13 hh14 hh15 hvs k0 k1 k2 k3 k4 k5 k6 k7 hbx hb0 hsz e2 e5 e8 e11 e12 e13 e14 e15 g12 g13 g14 g15 s12 s13 s14 s15 t12 t13 t14 t15 z12 z13 z14 z15 n1213 n1214 n1215 n1314 n1315 n1415 Ha Hb Hc Hd V1 V2 V3
    have hS := keepR V4
    have np1 : Near (-px) py := np.neg
    have nq1 : Near (-qx) qy := nq.neg
    have nr1 : Near (-rx) ry := nr.neg
    have np2 : Near py px := np.turn
    have nq2 : Near qy qx := nq.turn
    have nr2 : Near ry rx := nr.turn
    have ns2 : Near sy sx := ns.turn
    have bp := np.x1; have bp' := np.x2; have bq := nq.x1; have bq' := nq.x2; have br := nr.x1; have br' := nr.x2
    rcases hc with ⟨z1, rfl⟩ | ⟨z1, rfl⟩ | ⟨rfl, rfl, rfl⟩
    · skip
      go_wp2_with (first
        | (go_at_call 9; refine (korient_any _ _ _ _ _ _ _ (by assumption) (by assumption) (by assumption)).mono ?_; rintro e w' ⟨rfl, hb1⟩; first | replace hS := keep1 hS hb1 | replace hS := keep1 (keep1 hS (below1 _ _)) hb1)
        | (go_at_call 10; refine (kcircS_any _ _ _ _ _ _ _ _ _ (by assumption) (by assumption) (by assumption) (by assumption)).mono ?_; rintro e w' ⟨rfl, hb1⟩; replace hS := keep1 hS hb1)
        | (go_at_call 11; refine (kside_any _ _ _ _ _ _ _ (by assumption) (by assumption) (by assumption)).mono ?_; rintro e w' ⟨rfl, hb1⟩; replace hS := keep1 hS hb1; have z12 := Nat.lt_of_lt_of_le y12 hS.1.size; have z13 := Nat.lt_of_lt_of_le y13 hS.1.size; have z14 := Nat.lt_of_lt_of_le y14 hS.1.size; have z15 := Nat.lt_of_lt_of_le y15 hS.1.size))
      go_ret
      exact ⟨rfl, keepE hS hb4⟩
    · skip
      go_wp2_with (first
        | (go_at_call 9; refine (korient_any _ _ _ _ _ _ _ (by assumption) (by assumption) (by assumption)).mono ?_; rintro e w' ⟨rfl, hb1⟩; first | replace hS := keep1 hS hb1 | replace hS := keep1 (keep1 hS (below1 _ _)) hb1)
        | (go_at_call 10; refine (kcircS_any _ _ _ _ _ _ _ _ _ (by assumption) (by assumption) (by assumption) (by assumption)).mono ?_; rintro e w' ⟨rfl, hb1⟩; replace hS := keep1 hS hb1)
        | (go_at_call 11; refine (kside_any _ _ _ _ _ _ _ (by assumption) (by assumption) (by assumption)).mono ?_; rintro e w' ⟨rfl, hb1⟩; replace hS := keep1 hS hb1; have z12 := Nat.lt_of_lt_of_le y12 hS.1.size; have z13 := Nat.lt_of_lt_of_le y13 hS.1.size; have z14 := Nat.lt_of_lt_of_le y14 hS.1.size; have z15 := Nat.lt_of_lt_of_le y15 hS.1.size))
      go_ret
      exact ⟨rfl, keepE hS hb4⟩
    · skip
      go_wp2_with (first
        | (go_at_call 9; refine (korient_any _ _ _ _ _ _ _ (by assumption) (by assumption) (by assumption)).mono ?_; rintro e w' ⟨rfl, hb1⟩; first | replace hS := keep1 hS hb1 | replace hS := keep1 (keep1 hS (below1 _ _)) hb1)
        | (go_at_call 10; refine (kcircS_any _ _ _ _ _ _ _ _ _ (by assumption) (by assumption) (by assumption) (by assumption)).mono ?_; rintro e w' ⟨rfl, hb1⟩; replace hS := keep1 hS hb1)
        | (go_at_call 11; refine (kside_any _ _ _ _ _ _ _ (by assumption) (by assumption) (by assumption)).mono ?_; rintro e w' ⟨rfl, hb1⟩; replace hS := keep1 hS hb1; have z12 := Nat.lt_of_lt_of_le y12 hS.1.size; have z13 := Nat.lt_of_lt_of_le y13 hS.1.size; have z14 := Nat.lt_of_lt_of_le y14 hS.1.size; have z15 := Nat.lt_of_lt_of_le y15 hS.1.size))
      go_ret
      exact ⟨rfl, keepE hS hb4⟩

theorem signs_walk (ax ay bx by' cx cy dx dy step : Int) (w : World) (a1 : -9223372036854775808 ≤ ax ∧ ax ≤ 9223372036854775807) (a2 : -9223372036854775808 ≤ ay ∧ ay ≤ 9223372036854775807)
    (b1 : -9223372036854775808 ≤ bx ∧ bx ≤ 9223372036854775807) (b2 : -9223372036854775808 ≤ by' ∧ by' ≤ 9223372036854775807) (c1 : -9223372036854775808 ≤ cx ∧ cx ≤ 9223372036854775807) (c2 : -9223372036854775808 ≤ cy ∧ cy ≤ 9223372036854775807)
    (d1 : -9223372036854775808 ≤ dx ∧ dx ≤ 9223372036854775807) (d2 : -9223372036854775808 ≤ dy ∧ dy ≤ 9223372036854775807) (t : -9223372036854775808 ≤ step ∧ step ≤ 9223372036854775807) :
    Calls Try.prog 3 #[pv ax ay, pv bx by', pv cx cy, pv dx dy, .int .i64 step] w fun e w' => e = .returned (.bool true) ∧ Below w.heap.size w w' := by
  have np := near_pt ax ay step; have nq := near_pt bx by' step; have nr := near_pt cx cy step; have ns := near_pt dx dy step
  have Ha := fun w => point_any ax ay step w a1.1 a1.2 a2.1 a2.2 t.1 t.2
  have Hb := fun w => point_any bx by' step w b1.1 b1.2 b2.1 b2.2 t.1 t.2
  have Hc := fun w => point_any cx cy step w c1.1 c1.2 c2.1 c2.2 t.1 t.2
  have Hd := fun w => point_any dx dy step w d1.1 d1.2 d2.1 d2.2 t.1 t.2
  generalize ptX ax step = px at *; generalize ptY ay step = py at *
  generalize ptX bx step = qx at *; generalize ptY by' step = qy at *
  generalize ptX cx step = rx at *; generalize ptY cy step = ry at *
  generalize ptX dx step = sx at *; generalize ptY dy step = sy at *
  refine signs_core ax ay bx by' cx cy dx dy step px py qx qy rx ry sx sy _ _ _ w Ha Hb Hc Hd np nq nr ns rfl rfl rfl ?_ ?_ ?_ (circS_turn ..) (circS_swap ..) (circS_rot ..) (circS_on ..) (circS_bd ..).1 (circS_bd ..).2 ?_
  · rw [side_mirror, sg_neg]
  · rw [side_rot]
  · rw [side_swap, sg_neg]
  · rcases Int.lt_trichotomy (sideN px py qx qy rx ry) 0 with h | h | h
    · exact .inr (.inl ⟨h, sg_neg' h⟩)
    · exact .inr (.inr ⟨h, by rw [h]; rfl, circS_flat _ _ _ _ _ _ _ _ h⟩)
    · exact .inl ⟨h, sg_pos h⟩

end Go.Proofs.Ytgpapegpdfonpaa
