/-
  Net.asked of the statement: of no points; of any net.
  Found of the statement: its walk.
-/
import Derived.Test.YtgpapegpdfonpaaGreatFoundC
namespace Go.Proofs.YtgpapegpdfonpaaGreat
set_option linter.unusedVariables false
set_option linter.unusedSimpArgs false
open Go.RowKit
attribute [local go_sem ↓] Go.wp_at_zero Go.wp_at_succ

def valsN1 (X m B : Nat) (px py : Int) : Nat → Value
  | 0 => .pointer (some ⟨X, 0, none⟩)
  | 1 => .pointer (some ⟨X, 0, none⟩)
  | 2 => .pointer (some ⟨X, 0, none⟩)
  | 3 => .pointer (some ⟨m, 0, none⟩)
  | 4 => .agg #[.int .i64 px, .int .i64 py]
  | 5 => .tuple #[.int .i64 0, .int .i64 4]
  | 6 => .tuple #[.int .i64 0, .int .i64 4]
  | 7 => .int .i64 0
  | 8 => .int .i64 4
  | 9 => .int .i64 0
  | 10 => .int .i64 4
  | _ => undef

set_option maxRecDepth 100000 in
set_option maxHeartbeats 16000000 in
theorem asked_nil (X m : Nat) (pa ta : Option Addr) (pc tc : Nat) (px py : Int) (w : World) (hX : X < w.heap.size)
    (c0 : w.cell? ⟨X, 0, none⟩ = some (.pointer (some ⟨m, 0, none⟩))) (c1 : w.cell? ⟨X, 1, none⟩ = some (.slice pa 0 pc))
    (NR : ∀ W, Below w.heap.size w W → Calls Tryz.prog 8 #[.pointer (some ⟨m, 0, none⟩), .agg #[.int .i64 px, .int .i64 py]] W fun e w' => e = .returned (.tuple #[.int .i64 0, .int .i64 4]) ∧ Below W.heap.size W w')
    (LC : ∀ W, Below w.heap.size w W → Calls Tryz.prog 7 #[.pointer (some ⟨m, 0, none⟩), .agg #[.int .i64 px, .int .i64 py]] W fun e w' => e = .returned (.tuple #[.agg #[.int .i64 0, .int .i64 (-1), .int .i64 (-1), .int .i64 (-1)], .int .i64 0]) ∧ Below W.heap.size W w') :
    Calls Tryz.prog 10 #[.pointer (some ⟨X, 0, none⟩), .slice ta 0 tc, .agg #[.int .i64 px, .int .i64 py]] w fun e w' => e = .returned (.bool true) ∧ Below w.heap.size w w' := by
  go_enter Tryz.func10, Tryz.ntmps10
  go_wp2_with fail
  generalize hW : w.alloc (.cells #[.int .i64 px, .int .i64 py] 32) = W
  have hb0 : Below w.heap.size w W := by rw [← hW]; exact below1 _ _
  have BW : w.heap.size < W.heap.size := by rw [← hW]; simp
  have k4 : W.cell? ⟨w.heap.size, 0, none⟩ = some (.int .i64 px) := by rw [← hW]; simp [go_sem]
  have k5 : W.cell? ⟨w.heap.size, 1, none⟩ = some (.int .i64 py) := by rw [← hW]; simp [go_sem]
  have XW : X < W.heap.size := by omega
  have x0 := (hb0.cell (p := ⟨X, 0, none⟩) hX).trans c0
  have x1 := (hb0.cell (p := ⟨X, 1, none⟩) hX).trans c1
  clear hW c0 c1
  go_cut [7, 8] (fun s7 s8 wx => s7 = .int .i64 0 ∧ s8 = .int .i64 4 ∧ Below W.heap.size W wx)
  case first =>
    as_aux_lemma =>
    refine wp_region_invG (m := 11) (by kernel_rfl) (by kernel_rfl) (by kernel_rfl) (dsts := [some 29, some 30, some 31, some 32, some 33, some 34, some 28, some 35, some 36, some 7, some 8]) rfl (by kernel_rfl) (l := []) rfl (ValG W (valsN1 X m w.heap.size px py)) ⟨(fun _ h => by cases h), (Below.refl _ _).drew⟩ ?_ ?_
    · refine (flS (flS (flS (flS (flS (flS (flS (flS (flS (flS (flS fl0 ?_) ?_) ?_) ?_) ?_) ?_) ?_) ?_) ?_) ?_) ?_)
      all_goals intro Ls σ wx hS hp hdn hun
      · exact runs rfl (gives_move (x := .tmp 0) rfl rfl (hS.step (i := 0) hS.bel)).toS
      · exact runs rfl (gives_nil (x := .tmp 29) rfl (show σ 0 = _ from hS.val 0 (hp 0 rfl)) (hS.step (i := 1) hS.bel)).toS
      · exact runs rfl (gives_field (T := 28) (x := .tmp 30) rfl (show σ 1 = _ from hS.val 1 (hp 1 rfl)) (run_fieldN0 _ _) (hS.step (i := 2) hS.bel)).toS
      · exact runs rfl (gives_load (T := 24) (x := .tmp 31) rfl (show σ 2 = _ from hS.val 2 (hp 2 rfl)) (run_load_mpX _ _ _ ((hS.bel.cell (p := ⟨X, 0, none⟩) XW).trans x0)) (hS.step (i := 3) hS.bel)).toS
      · exact runs rfl (gives_load (T := 32) (x := .tmp 5) rfl rfl (run_load_pt _ _ _ _ _ ((hS.bel.cell (p := ⟨w.heap.size, 0, none⟩) BW).trans k4) ((hS.bel.cell (p := ⟨w.heap.size, 1, none⟩) BW).trans k5)) (hS.step (i := 4) hS.bel)).toS
      · have e3 : σ 3 = _ := hS.val 3 (hp 3 rfl)
        have e4 : σ 4 = _ := hS.val 4 (hp 4 rfl)
        exact runs rfl (gives_call (f := 8) (args := [.pointer (some ⟨m, 0, none⟩), .agg #[.int .i64 px, .int .i64 py]]) rfl rfl (by show [σ 3, σ 4] = _; rw [e3, e4]; rfl) (by go_simp) ((NR wx (hb0.trans (hS.bel.mono hb0.size))).mono fun e w' h => ⟨_, h.1, hS.step (i := 5) (hS.bel.trans (h.2.mono hS.bel.size))⟩)).toS
      · exact runs rfl (gives_move (x := .tmp 34) rfl (show σ 5 = _ from hS.val 5 (hp 5 rfl)) (hS.step (i := 6) hS.bel)).toS
      · exact runs rfl (gives_extractX (x := .tmp 28) (i := 0) rfl (show σ 6 = _ from hS.val 6 (hp 6 rfl)) rfl (hS.step (i := 7) hS.bel)).toS
      · exact runs rfl (gives_extractX (x := .tmp 28) (i := 1) rfl (show σ 6 = _ from hS.val 6 (hp 6 rfl)) rfl (hS.step (i := 8) hS.bel)).toS
      · exact runs rfl (gives_asgF (x := .tmp 35) rfl (show σ 7 = _ from hS.val 7 (hp 7 rfl)) (hS.step (i := 9) hS.bel)).toS
      · exact runs rfl (gives_asgF (x := .tmp 36) rfl (show σ 8 = _ from hS.val 8 (hp 8 rfl)) (hS.step (i := 10) hS.bel)).toS
    · intro Ls σ wx hS hall
      have e9 : σ 9 = .int .i64 0 := hS.val 9 (hall 9 (by omega))
      have e10 : σ 10 = .int .i64 4 := hS.val 10 (hall 10 (by omega))
      have hbx := hS.bel
      clear hS
      refine ⟨?_⟩
      simp only [lay, Act.put, List.drop_succ_cons, List.drop_zero, List.setIfInBounds_toArray, List.set_cons_succ, List.set_cons_zero, e9, e10]
      go_wp2_with fail
      go_meet
      exact ⟨rfl, rfl, hbx⟩
  case rest =>
  as_aux_lemma =>
  obtain ⟨rfl, rfl, hbq⟩ := hcut
  have hb1 : Below w.heap.size w wc := hb0.trans (hbq.mono hb0.size)
  replace k4 := (hbq.cell (p := ⟨w.heap.size, 0, none⟩) BW).trans k4
  replace k5 := (hbq.cell (p := ⟨w.heap.size, 1, none⟩) BW).trans k5
  replace BW := Nat.lt_of_lt_of_le BW hbq.size
  replace x0 := (hbq.cell (p := ⟨X, 0, none⟩) XW).trans x0
  replace x1 := (hbq.cell (p := ⟨X, 1, none⟩) XW).trans x1
  replace XW := Nat.lt_of_lt_of_le XW hbq.size
  clear hb0 hbq NR
  generalize wc = V at *
  go_wp2_with fail
  go_cut [9, 10] (fun s9 s10 wx => ∃ Q, s9 = .pointer (some ⟨Q, 0, none⟩) ∧ s10 = .int .i64 0 ∧ V.heap.size ≤ Q ∧ wx.heap[Q]? = some (.cells #[.int .i64 0, .int .i64 (-1), .int .i64 (-1), .int .i64 (-1)] 35 (0, 0)) ∧ Below V.heap.size V wx)
  case first =>
    as_aux_lemma =>
    have HKD := kdA2_put X m w.heap.size px py 0 (-1) (-1) (-1)
    refine wp_region_inv (m := 12) (by kernel_rfl) (by kernel_rfl) (dsts := [some 38, some 39, some 40, some 41, some 42, some 43, some 37, some 44, some 45, some 9, none, some 10]) rfl (by kernel_rfl) (l := []) rfl (SowX V (kdA2 X m w.heap.size px py 0 (-1) (-1) (-1))) (SowX.start _ _ _) ?_ ?_
    · refine (flS (flS (flS (flS (flS (flS (flS (flS (flS (flS (flS (flS fl0 ?_) ?_) ?_) ?_) ?_) ?_) ?_) ?_) ?_) ?_) ?_) ?_)
      all_goals intro Ls σ wx hS hp hdn hun
      · exact (gives_move (x := .tmp 0) rfl rfl (hS.stepV (i := 0) rfl)).toS
      · exact (gives_nil (x := .tmp 38) rfl (show σ 0 = _ from hS.val 0 _ rfl (hp 0 rfl)) (hS.stepV (i := 1) rfl)).toS
      · exact (gives_field (T := 28) (x := .tmp 39) rfl (show σ 1 = _ from hS.val 1 _ rfl (hp 1 rfl)) (run_fieldN0 _ _) (hS.stepV (i := 2) rfl)).toS
      · exact (gives_load (T := 24) (x := .tmp 40) rfl (show σ 2 = _ from hS.val 2 _ rfl (hp 2 rfl)) (run_load_mpX _ _ _ ((hS.bel.cell (p := ⟨X, 0, none⟩) XW).trans x0)) (hS.stepV (i := 3) rfl)).toS
      · exact (gives_load (T := 32) (x := .tmp 5) rfl rfl (run_load_pt _ _ _ _ _ ((hS.bel.cell (p := ⟨w.heap.size, 0, none⟩) BW).trans k4) ((hS.bel.cell (p := ⟨w.heap.size, 1, none⟩) BW).trans k5)) (hS.stepV (i := 4) rfl)).toS
      · have e3 : σ 3 = _ := hS.val 3 _ rfl (hp 3 rfl)
        have e4 : σ 4 = _ := hS.val 4 _ rfl (hp 4 rfl)
        exact (gives_call (f := 7) (args := [.pointer (some ⟨m, 0, none⟩), .agg #[.int .i64 px, .int .i64 py]]) rfl rfl (by show [σ 3, σ 4] = _; rw [e3, e4]) (by go_simp) ((LC wx (hb1.trans (hS.bel.mono hb1.size))).mono fun e w' h => ⟨_, h.1, hS.stepC (i := 5) rfl h.2⟩)).toS
      · exact (gives_move (x := .tmp 43) rfl (show σ 5 = _ from hS.val 5 _ rfl (hp 5 rfl)) (hS.stepV (i := 6) rfl)).toS
      · exact (gives_extractX (x := .tmp 37) (i := 0) rfl (show σ 6 = _ from hS.val 6 _ rfl (hp 6 rfl)) rfl (hS.stepV (i := 7) rfl)).toS
      · exact (gives_extractX (x := .tmp 37) (i := 1) rfl (show σ 6 = _ from hS.val 6 _ rfl (hp 6 rfl)) rfl (hS.stepV (i := 8) rfl)).toS
      · refine (gives_alloc (T := 35) rfl (run_alloc_placeX _) (hS.stepF (i := 9) rfl (fun q c hq => ?_))).toS
        have hq2 : q = 10 := HKD q 9 c hq (by omega)
        subst hq2
        cases hlq : Ls 10 with
        | false => rfl
        | true => have := hdn 10 9 hlq rfl; rw [hun] at this; cases this
      · obtain ⟨bb, cur, e1, e2, e3, e4, e5⟩ := hS.fre 9 _ _ rfl (hp 9 rfl)
        obtain ⟨wn, s1, s2, s3, s4⟩ := st_place e3 e4
        exact gives_store (T := 35) (x := .tmp 9) (y := .tmp 44) rfl (show σ 9 = _ from e1) (show σ 7 = _ from hS.val 7 _ rfl (hp 7 rfl)) s1 (hS.stepP (i := 10) rfl rfl rfl (hp 9 rfl) e1 (fun q c hq => HKD q 9 c hq (by omega)) s2 s3 s4)
      · exact (gives_asgF (x := .tmp 45) rfl (show σ 8 = _ from hS.val 8 _ rfl (hp 8 rfl)) (hS.stepV (i := 11) rfl)).toS
    · intro Ls σ wx hS hall
      obtain ⟨b9, c9, e9, g9, hh9, hz9, hu9⟩ := hS.fre 9 _ _ rfl (hall 9 (by omega))
      obtain rfl := hu9 10 _ rfl (hall 10 (by omega))
      have e11 : σ 11 = .int .i64 0 := hS.val 11 _ rfl (hall 11 (by omega))
      refine ⟨?_⟩
      simp only [lay, Act.put, List.drop_succ_cons, List.drop_zero, List.setIfInBounds_toArray, List.set_cons_succ, List.set_cons_zero, e9, e11]
      go_wp2_with fail
      go_meet
      exact ⟨b9, rfl, rfl, g9, hh9, hS.bel⟩
  case rest =>
  as_aux_lemma =>
  obtain ⟨Q, rfl, rfl, hQ0, hQ, hbq⟩ := hcut
  have hb2 : Below w.heap.size w wc := hb1.trans (hbq.mono hb1.size)
  replace x1 := (hbq.cell (p := ⟨X, 1, none⟩) XW).trans x1
  replace k4 := (hbq.cell (p := ⟨w.heap.size, 0, none⟩) BW).trans k4
  replace k5 := (hbq.cell (p := ⟨w.heap.size, 1, none⟩) BW).trans k5
  replace BW := Nat.lt_of_lt_of_le BW hbq.size
  have hQl := lt_some hQ
  clear hb1 hbq LC x0 XW
  generalize wc = U at *
  generalize hB : w.heap.size = B at *
  have HB : Hid (w.heap.size = B) := hB
  clear hB

  have j0 : U.cell? ⟨Q, 0, none⟩ = some (.int .i64 0) := cell_of_heap hQ 0
  have j1 : U.cell? ⟨Q, 1, none⟩ = some (.int .i64 (-1)) := cell_of_heap hQ 1
  have j2 : U.cell? ⟨Q, 2, none⟩ = some (.int .i64 (-1)) := cell_of_heap hQ 2
  have j3 : U.cell? ⟨Q, 3, none⟩ = some (.int .i64 (-1)) := cell_of_heap hQ 3
  have heq := eqPlaceF 0 (-1) (-1) (-1)
  clear hQ hQ0 hQl
  go_wp2_with fail
  go_loopw [11, 12] (fun s11 _ wr => s11 = .int .i64 0 ∧ wr = U) (fun _ _ _ => 0)
  case atStart => exact ⟨rfl, rfl⟩
  case round =>
    obtain ⟨rfl, rfl⟩ := hrel
    generalize wr = U at *
    go_wp2_with fail
    go_loopw [13, 14, 15, 16, 17, 18, 19, 20, 21] (fun s13 s14 s15 _ _ _ _ _ _ wr => s13 = .int .i64 0 ∧ s14 = .int .i64 0 ∧ s15 = .int .i64 0 ∧ wr = U) (fun _ _ _ _ _ _ _ _ _ _ => 0)
    case atStart => exact ⟨rfl, rfl, rfl, rfl⟩
    case round =>
      obtain ⟨rfl, rfl, rfl, rfl⟩ := hrel
      generalize wr = U at *
      go_wp2_with fail
      go_loopw [22, 23, 24, 25, 26, 27] (fun s22 s23 s24 _ _ _ wr => s22 = .bool false ∧ s23 = .bool false ∧ s24 = .int .i64 0 ∧ wr = U) (fun _ _ _ _ _ _ _ => 0)
      case atStart => exact ⟨rfl, rfl, rfl, rfl⟩
      case round =>
        obtain ⟨rfl, rfl, rfl, rfl⟩ := hrel
        go_wp2
        go_ret
        exact ⟨rfl, by rw [HB.out]; exact hb2⟩

theorem asked_any (w : World) (tag : Nat → Nat) (i base : Nat) (d : ND) (v : Value) (ts : List T3) (px py : Int) (H : NetIs w tag i d) (ho : w.ownsRow base 53 3 v ts.length (flatT ts)) (hS : TriSpec d.pts ts) (hlen : ts.length ≤ 4000) (hp : Near px py) :
    Calls Tryz.prog 10 #[.pointer (some ⟨d.X, 0, none⟩), v, .agg #[.int .i64 px, .int .i64 py]] w fun e w' => e = .returned (.bool true) ∧ Below w.heap.size w w' := by
  obtain ⟨vP, vN, vA, vM, H⟩ := H
  have hOk := H.ok
  have hfar : farB px py = false := near_farB hp
  obtain ⟨pa, pc, rfl⟩ := ownS_any H.ownP
  obtain ⟨na, nc, rfl⟩ := ownS_any H.ownN
  obtain ⟨ta, tc, rfl⟩ := ownS_any ho
  have hG := good_of (fault_ok hOk.le hOk.near hOk.nd) hS hlen
  have cc := H.cells
  have hR : ∀ W, Below w.heap.size w W → PRow W d.m d.pts d.nums d.ever vA vM := fun W hb => (H.below hb).row
  obtain ⟨_, w1, _, ⟨k, a, b, c, r, _, hLA, _⟩, _⟩ := mlocate_any d.m d.pts d.nums d.ever vA vM px py w H.row hOk []
  have LC : ∀ W, Below w.heap.size w W → Calls Tryz.prog 7 #[.pointer (some ⟨d.m, 0, none⟩), .agg #[.int .i64 px, .int .i64 py]] W fun e w' => e = .returned (.tuple #[.agg #[.int .i64 k, .int .i64 a, .int .i64 b, .int .i64 c], .int .i64 0]) ∧ Below W.heap.size W w' := fun W hb =>
    (mlocate_any d.m d.pts d.nums d.ever vA vM px py W (hR W hb) hOk).mono fun e w' ⟨k2, a2, b2, c2, r2, he, hL2, hb2⟩ => by
      obtain ⟨rfl, rfl, rfl, rfl, e5⟩ := LocA.unique hOk hLA hL2
      have e0 : r2 = 0 := by
        rcases hL2 with ⟨f, _⟩ | ⟨_, h, _⟩
        · simp only [hfar] at f; cases f
        · exact h
      subst e0
      exact ⟨he, hb2⟩
  rcases hLA with ⟨f, _⟩ | ⟨_, _, us, a', b', c', hS', hl', hL, e1, e2, e3⟩
  · simp only [hfar] at f; cases f
  obtain rfl := TriSpec.unique hOk.nd hS' hS
  by_cases h0 : d.pts = []
  · have hts : us = [] := by
      cases us with
      | nil => rfl
      | cons t r =>
        obtain ⟨_, F, _⟩ := hG.tri (List.mem_cons_self ..)
        have := (F.tri t (List.mem_cons_self ..)).1
        rw [h0] at this
        simp at this
        omega
    subst hts
    have hk : k = 0 ∧ a' = -1 ∧ b' = -1 ∧ c' = -1 := by
      rw [h0] at hL
      rcases hL with ⟨i, hi, _⟩ | ⟨_, q, hq, _⟩ | ⟨_, _, t, ht, _⟩ | ⟨_, _, _, h⟩
      · simp at hi
      · exact absurd hq (by intro hq; obtain ⟨x, y⟩ := q; obtain ⟨g1, _⟩ := mem_allJ.1 hq; simp at g1)
      · cases ht
      · exact h
    obtain ⟨rfl, rfl, rfl, rfl⟩ := hk
    have ea : a = -1 := e1
    have eb : b = -1 := e2
    have ec : c = -1 := e3
    subst ea; subst eb; subst ec
    have c1 : w.cell? ⟨d.X, 1, none⟩ = some (.slice pa 0 pc) := by have := cc.2.1; rw [h0] at this; exact this
    exact asked_nil d.X d.m pa ta pc tc px py w H.lt cc.1 c1 (fun W hb => (mnear_any d.m d.pts d.nums d.ever vA vM px py W (hR W hb) hOk).mono fun e w' ⟨n, r, he, hN, hb2⟩ => by
      rcases hN with ⟨f, _⟩ | ⟨_, _, rfl, rfl⟩ | ⟨_, h, _⟩
      · simp only [hfar] at f; cases f
      · exact ⟨he, hb2⟩
      · exact absurd h0 h) LC
  · obtain ⟨mi, eb, F⟩ := askF w (ns := d.nums) hOk h0 hp hG hL
    rw [← e1, ← e2, ← e3] at F
    have hpos := List.length_pos_iff.2 h0
    obtain ⟨g, rfl, hg, hP⟩ : ∃ g, pa = some ⟨g, 0, none⟩ ∧ g < w.heap.size ∧ PtsAt w g 0 d.pts := by
      rcases RowP.raw' H.ownP with h | ⟨b, off, e, hb, hp⟩
      · exact absurd h h0
      · obtain ⟨g, e', hg, _⟩ := ownS_place H.ownP hpos
        rw [e'] at e
        simp at e
        obtain ⟨rfl, rfl⟩ := e
        exact ⟨g, e', hg, hp⟩
    have hnl : d.nums.length = d.pts.length := hOk.len.symm
    obtain ⟨gn, rfl, hgn, _⟩ := ownS_place H.ownN (by omega)
    have hNA : ∀ W, Below w.heap.size w W → NumsAt W (some ⟨gn, 0, none⟩) d.nums := fun W hb => (NumsAt.of_own H.ownN).below hb
    have hN : ∀ j, j < d.pts.length → w.cell? ⟨gn, j, none⟩ = some (.int .i64 (d.nums.getD j 0)) := fun j hj => by
      obtain ⟨g', e, hc⟩ := NumsAt.of_own H.ownN j (by omega)
      simp at e
      subst e
      exact hc
    have hAT : ∀ n W, Below w.heap.size w W → Calls Tryz.prog 16 #[.pointer (some ⟨d.X, 0, none⟩), .int .i64 n] W fun e w' => e = .returned (.int .i64 (placeN d.nums n)) ∧ Below W.heap.size W w' := fun n W hb =>
      nat_any d.X (some ⟨gn, 0, none⟩) nc d.nums n W (by have := hOk.le; omega) ((hb.cell (p := ⟨d.X, 2, none⟩) H.lt).trans cc.2.2.1) (hNA W hb)
    have hpl : ∀ j, j < d.pts.length → placeN d.nums (d.nums.getD j 0) = j := fun j hj => place_num hOk.inc (by omega)
    have c2 : w.cell? ⟨d.X, 2, none⟩ = some (.slice (some ⟨gn, 0, none⟩) d.pts.length nc) := by rw [← hnl]; exact cc.2.2.1
    refine asked_core d.X d.m g pc gn nc ta tc d.pts d.nums us px py (d.nums.getD mi 0) k a b c mi w hOk.le hlen ⟨H.lt, hg, hgn, cc.1, cc.2.1, c2, hP, hN, fun j hj => ?_⟩ (fun t ht => ?_) hOk.near hp F (fun W hb => ?_) LC (fun W hb => ?_) (fun hE W hb => ?_)
    · obtain ⟨gt, rfl, _, _⟩ := ownS_place ho (by omega)
      obtain ⟨h1, h2, _⟩ := tris_of ho
      obtain ⟨q0, q1, q2⟩ := h1 j hj
      exact ⟨gt, rfl, h2, q0, q1, q2⟩
    · obtain ⟨_, FF, _⟩ := hG.tri ht
      have := (FF.tri t ht).1
      omega
    · refine (mnear_any d.m d.pts d.nums d.ever vA vM px py W (hR W hb) hOk).mono fun e w' ⟨n, r, he, hN, hb2⟩ => ?_
      rcases hN with ⟨f, _⟩ | ⟨_, h, _⟩ | ⟨_, _, rfl, rfl⟩
      · simp only [hfar] at f; cases f
      · exact absurd h h0
      · rw [eb, numO_pos'] at he
        exact ⟨he, hb2⟩
    · have := hAT (d.nums.getD mi 0) W hb
      rw [hpl mi F.hm] at this
      exact this
    · obtain ⟨x, y, hxy, hy, rfl, rfl, rfl, hs⟩ := hE
      have hx : x < d.pts.length := by omega
      have hlt : d.nums.getD x 0 < d.nums.getD y 0 := by
        have ex : d.nums.getD x 0 = d.nums[x]'(by omega) := by simp [show x < d.nums.length by omega]
        have ey : d.nums.getD y 0 = d.nums[y]'(by omega) := by simp [show y < d.nums.length by omega]
        rw [ex, ey]
        exact (List.pairwise_iff_getElem.1 hOk.inc) x y (by omega) (by omega) hxy
      have HW := H.below hb
      have hPW := hP.below hb hg
      obtain ⟨d0, d1⟩ := hPW x hx
      obtain ⟨d2, d3⟩ := hPW y hy
      rw [Nat.zero_add] at d0 d1 d2 d3
      refine edge_core d.X g d.pts.length pc px py k (d.nums.getD x 0) (d.nums.getD y 0) (d.pts.getD x (0, 0)).1 (d.pts.getD x (0, 0)).2 (d.pts.getD y (0, 0)).1 (d.pts.getD y (0, 0)).2 x y W HW.lt (Nat.lt_of_lt_of_le hg hb.size) hx hy HW.cells.2.1 d0 d1 d2 d3 (hOk.near x hx) (hOk.near y hy) hp hlt hs.1 hs.2 (fun W' hb' => ?_) (fun W' hb' => ?_)
      · have := hAT (d.nums.getD x 0) W' (hb.trans (hb'.mono hb.size))
        rw [hpl x hx] at this
        exact this
      · have := hAT (d.nums.getD y 0) W' (hb.trans (hb'.mono hb.size))
        rw [hpl y hy] at this
        exact this
end Go.Proofs.YtgpapegpdfonpaaGreat


namespace Go.Proofs.YtgpapegpdfonpaaGreat
set_option linter.unusedVariables false
set_option linter.unusedSimpArgs false
open Go.RowKit
attribute [local go_sem ↓] Go.wp_at_zero Go.wp_at_succ

/-- a net that is new -/
theorem net_new {w w1 : World} {tag : Nat → Nat} {i M X : Nat} (hT : TagN w tag) (hM : w.heap.size = M) (hX : w1.heap.size = X) (hP : PRow w1 M [] [] 0 (.slice none 0 0) (.slice none 0 0)) (hb : Below w.heap.size w w1) :
    NPost w (w1.alloc (.cells #[.pointer (some ⟨M, 0, none⟩), .slice none 0 0, .slice none 0 0, .int .i64 0] 28)) tag (fun k => if k = X then i else if k = M then i + 1 else tag k) i ⟨X, M, [], [], 0⟩ := by
  subst hM hX
  have hlt := hP.lt
  have hsz : (w1.alloc (.cells #[.pointer (some ⟨w.heap.size, 0, none⟩), .slice none 0 0, .slice none 0 0, .int .i64 0] 28)).heap.size = w1.heap.size + 1 := by simp
  have nn : ∀ g, (Value.slice none 0 0).ownBlock = some g → False := fun g h => by cases h
  refine ⟨fun k hk => ?_, fun k hk => ?_, ⟨_, _, _, _, ⟨heap_last _ _, ⟨rfl, .inl ⟨rfl, rfl⟩⟩, ⟨rfl, .inl ⟨rfl, rfl⟩⟩, hP.below (below1 _ _), ⟨rfl, by simp, (fun i h => by cases h), List.nodup_nil, List.Pairwise.nil, (fun n h => by cases h)⟩, if_pos rfl, (fun g hg => (nn g hg).elim), (fun g hg => (nn g hg).elim), ?_, (fun g hg => (nn g hg).elim), (fun g hg => (nn g hg).elim)⟩⟩, Chg.of_below (hb.trans ((below1 _ _).mono hb.size))⟩
  · have := hb.size
    simp only [if_neg (show k ≠ w1.heap.size by omega), if_neg (show k ≠ w.heap.size by omega)]
  · rw [hsz]
    by_cases c : k = w1.heap.size
    · omega
    · simp only [if_neg c] at hk
      by_cases c2 : k = w.heap.size
      · omega
      · simp only [if_neg c2] at hk
        have := hT k hk
        have := hb.size
        omega
  · show (if w.heap.size = w1.heap.size then i else if w.heap.size = w.heap.size then i + 1 else _) = i + 1
    rw [if_neg (by omega), if_pos rfl]

def kdF14 (X M g L lc kk : Nat) (qx qy : Int) : Nat → KndX
  | 0 => .val (.pointer (some ⟨X, 0, none⟩))
  | 1 => .val (.pointer (some ⟨X, 0, none⟩))
  | 2 => .val (.pointer (some ⟨X, 0, none⟩))
  | 3 => .val (.pointer (some ⟨M, 0, none⟩))
  | 4 => .val (.slice (some ⟨g, 0, none⟩) L lc)
  | 5 => .val (.int .i64 (kk : Int))
  | 6 => .val (.pointer (some ⟨g, kk * 2, none⟩))
  | 7 => .val (.agg #[.int .i64 qx, .int .i64 qy])
  | 8 => .val (.tuple #[.agg #[.int .i64 3, .int .i64 (kk : Int), .int .i64 (-1), .int .i64 (-1)], .int .i64 0])
  | 9 => .val (.tuple #[.agg #[.int .i64 3, .int .i64 (kk : Int), .int .i64 (-1), .int .i64 (-1)], .int .i64 0])
  | 10 => .val (.agg #[.int .i64 3, .int .i64 (kk : Int), .int .i64 (-1), .int .i64 (-1)])
  | 11 => .val (.int .i64 0)
  | 12 => .fresh 35 #[.int .i64 0, .int .i64 0, .int .i64 0, .int .i64 0]
  | 13 => .put 12 #[.int .i64 3, .int .i64 (kk : Int), .int .i64 (-1), .int .i64 (-1)]
  | 14 => .val (.int .i64 0)
  | _ => .val undef
theorem kdF14_put (X M g L lc kk : Nat) (qx qy : Int) (q aa : Nat) (cc : Array Value) (h : kdF14 X M g L lc kk qx qy q = .put aa cc) (_h0 : 0 ≤ q) : q = aa + 1 := by
  unfold kdF14 at h
  split at h <;> simp at h <;> omega
def valsF15 (X M g L lc kk : Nat) (qx qy : Int) : Nat → Value
  | 0 => .pointer (some ⟨X, 0, none⟩)
  | 1 => .pointer (some ⟨X, 0, none⟩)
  | 2 => .pointer (some ⟨X, 0, none⟩)
  | 3 => .pointer (some ⟨M, 0, none⟩)
  | 4 => .slice (some ⟨g, 0, none⟩) L lc
  | 5 => .int .i64 (kk : Int)
  | 6 => .pointer (some ⟨g, kk * 2, none⟩)
  | 7 => .agg #[.int .i64 qx, .int .i64 qy]
  | 8 => .tuple #[.int .i64 (kk : Int), .int .i64 0]
  | 9 => .tuple #[.int .i64 (kk : Int), .int .i64 0]
  | 10 => .int .i64 (kk : Int)
  | 11 => .int .i64 0
  | 12 => .int .i64 (kk : Int)
  | 13 => .int .i64 0
  | _ => undef

/-- the net that holds the first k points -/
structure FI (w wr : World) (tag : Nat → Nat) (d : ND) (X m : Nat) (v : Value) (l : List Pt) (k : Nat) : Prop where
  net : NetIs wr tag 1 d
  tg : TagN wr tag
  hX : d.X = X
  hm : d.m = m
  pts : d.pts = l.take k
  nums : d.nums = (List.range k).map fun (j : Nat) => (j : Int)
  ever : d.ever = k
  row : wr.ownsRow 0 32 2 v l.length (cellsP l)
  t0 : ∀ g, v.ownBlock = some g → tag g = 0
  old : ∀ j, j < w.heap.size → tag j = 0
  bel : Below w.heap.size w wr
theorem FI.below {w wr w' : World} {tag : Nat → Nat} {d : ND} {X m : Nat} {v : Value} {l : List Pt} {k : Nat} (h : FI w wr tag d X m v l k) (hb : Below wr.heap.size wr w') : FI w w' tag d X m v l k :=
  ⟨h.net.below hb, fun j hj => Nat.lt_of_lt_of_le (h.tg j hj) hb.size, h.hX, h.hm, h.pts, h.nums, h.ever, ownB_below h.row hb, h.t0, h.old, h.bel.trans (hb.mono h.bel.size)⟩
theorem FI.step {w wr w' : World} {tag tag' : Nat → Nat} {d : ND} {X m : Nat} {v : Value} {l : List Pt} {k : Nat} (h : FI w wr tag d X m v l k) (hnd : l.Nodup) (hl : l.length ≤ 60) (hk : k < l.length) (hp : NPost wr w' tag tag' 1 (comesD d (l.getD k (0, 0)))) : ∃ d', FI w w' tag' d' X m v l (k + 1) := by
  have hek : l.getD k (0, 0) = l[k] := by simp [hk]
  have hnew : ¬ (l.getD k (0, 0) ∈ d.pts ∨ d.pts.length = 60) := by
    rw [h.pts, hek]
    rintro (hm | hm)
    · obtain ⟨i, hi, e⟩ := List.getElem_of_mem hm
      simp at hi
      rw [List.getElem_take] at e
      have := (List.getElem_inj hnd).1 e
      omega
    · simp at hm; omega
  have ed : comesD d (l.getD k (0, 0)) = ⟨d.X, d.m, d.pts ++ [l.getD k (0, 0)], d.nums ++ [(d.ever : Int)], d.ever + 1⟩ := by unfold comesD; rw [if_neg hnew]
  rw [ed] at hp
  have hfar : ∀ j, j < wr.heap.size → tag j = 0 → w'.heap[j]? = wr.heap[j]? := fun j hj ht => hp.chg.far j hj (by rw [ht]; decide)
  refine ⟨_, hp.net, hp.tagged, h.hX, h.hm, ?_, ?_, by simp [h.ever], ownS_keep h.row fun g hg => hfar g (ownS_lt h.row hg) (h.t0 g hg), fun g hg => by rw [hp.agree g (ownS_lt h.row hg)]; exact h.t0 g hg, fun j hj => by rw [hp.agree j (Nat.lt_of_lt_of_le hj h.bel.size)]; exact h.old j hj, ?_⟩
  · show d.pts ++ [l.getD k (0, 0)] = l.take (k + 1)
    rw [h.pts, hek, List.take_add_one, List.getElem?_eq_getElem hk]; rfl
  · show d.nums ++ [(d.ever : Int)] = _
    rw [h.nums, h.ever, List.range_succ, List.map_append]; rfl
  · exact h.bel.trans (hp.chg.below h.bel.size fun j hj hF => by rw [h.old j hj] at hF; omega)
theorem FI.full {w wr : World} {tag : Nat → Nat} {d : ND} {X m : Nat} {v : Value} {l : List Pt} (h : FI w wr tag d X m v l l.length) : d.pts = l ∧ ∀ j, j < l.length → d.nums.getD j 0 = j := by
  refine ⟨by rw [h.pts, List.take_length], fun j hj => ?_⟩
  rw [h.nums]
  simp [hj]
/-- each point lies on itself, and is its own nearest -/
theorem self_loc {l : List Pt} {ns : List Int} {ever : Nat} (hOk : MOk l ns ever) (hn : ∀ j, j < l.length → ns.getD j 0 = j) {i : Nat} (hi : i < l.length) {k a b c r : Int} (h : LocA l ns (ptAt l i) k a b c r) : k = 3 ∧ a = i ∧ b = -1 ∧ c = -1 ∧ r = 0 := by
  have hf : farB (ptAt l i).1 (ptAt l i).2 = false := near_farB (hOk.near i hi)
  rcases h with ⟨f, _⟩ | ⟨_, hr, ts, a', b', c', hS, hl, hL, rfl, rfl, rfl⟩
  · rw [hf] at f; cases f
  · obtain ⟨rfl, rfl, rfl, rfl⟩ := loc_here (good_of (fault_ok hOk.le hOk.near hOk.nd) hS hl) hOk.nd hL hi rfl
    exact ⟨rfl, by rw [numO_pos']; exact hn i hi, rfl, rfl, hr⟩
theorem self_near {l : List Pt} {ns : List Int} {ever : Nat} (hOk : MOk l ns ever) (hn : ∀ j, j < l.length → ns.getD j 0 = j) {i : Nat} (hi : i < l.length) {n r : Int} (h : NearP' l ns (ptAt l i) n r) : n = i ∧ r = 0 := by
  have hf : farB (ptAt l i).1 (ptAt l i).2 = false := near_farB (hOk.near i hi)
  rcases h with ⟨f, _⟩ | ⟨_, h0, _⟩ | ⟨_, _, hr, rfl⟩
  · rw [hf] at f; cases f
  · rw [h0] at hi; simp at hi
  · obtain ⟨m, e, hm, h1, _⟩ := bestW_min (p := ptAt l i) hOk.near (hOk.near i hi) l.length (by omega) (Nat.le_refl _)
    have h0 : dst (ptAt l i) (ptAt l i) = 0 := by unfold dst; simp
    have h2 := h1 i hi
    rw [h0] at h2
    have hmi : m = i := by
      by_cases e : ptAt l m = ptAt l i
      · exact ptAt_inj hOk.nd hm hi e
      · have := dst_pos e; omega
    rw [e, numO_pos', hmi]
    exact ⟨hn i hi, hr⟩

set_option maxRecDepth 100000 in
set_option maxHeartbeats 16000000 in
theorem found_walk (a : Option Addr) (cap : Nat) (rs : List Pt) (step : Int) (a2 : Option Addr) (cap2 : Nat) (qs : List Pt) (w : World) (hm : rs.length ≤ maxLen) (hr : RawAt w a rs) (hfit : Fits rs) (hm2 : qs.length ≤ maxLen) (hr2 : RawAt w a2 qs) (hfit2 : Fits qs) (t1 : -9223372036854775808 ≤ step) (t2 : step ≤ 9223372036854775807) :
    Calls Tryz.prog 3 #[.slice a rs.length cap, .int .i64 step, .slice a2 qs.length cap2] w fun e w' => e = .returned (.bool true) ∧ Below w.heap.size w w' := by
  have HR1 : Hid (RawAt w a rs ∧ Fits rs ∧ rs.length ≤ maxLen) := ⟨hr, hfit, hm⟩
  have HR2 : Hid (RawAt w a2 qs ∧ Fits qs ∧ qs.length ≤ maxLen) := ⟨hr2, hfit2, hm2⟩
  have HN1 := mnew_any w
  have hq63 : (qs.length : Int) ≤ 9223372036854775807 := by unfold maxLen at hm2; omega
  clear hr hfit hm hr2 hfit2 hm2
  go_enter Tryz.func3, Tryz.ntmps3
  go_upto_region 2 with (first | (go_at_call 4; refine HN1.mono ?_; rintro e w1 ⟨rfl, hP1, hb1⟩))
  have hlt1 := hP1.lt
  generalize hmx : w.heap.size = M at *
  generalize hXx : w1.heap.size = X at *
  have HX := net_new (w := w) (tag := fun _ => 0) (i := 1) (M := M) (X := X) (fun k hk => by simp at hk) hmx hXx hP1 (by rw [hmx]; exact hb1)
  generalize w1.alloc (.cells #[.pointer (some ⟨M, 0, none⟩), .slice none 0 0, .slice none 0 0, .int .i64 0] 28) = V1 at *
  have HXH : Hid (NPost w V1 (fun _ => 0) (fun k => if k = X then 1 else if k = M then 1 + 1 else 0) 1 ⟨X, M, [], [], 0⟩) := HX
  have HMX : Hid (w.heap.size = M ∧ M < X) := ⟨hmx, by omega⟩
  have hbV : Below w.heap.size w V1 := HX.chg.below (Nat.le_refl _) fun k _ hF => by simp at hF
  have cx : V1.cell? ⟨X, 0, none⟩ = some (.pointer (some ⟨M, 0, none⟩)) := by
    obtain ⟨_, _, _, _, hn⟩ := HX.net
    exact hn.cells.1
  have HC := cloud_any a cap rs step V1 HR1.out.2.2 (raw_below HR1.out.1 hbV) HR1.out.2.1 t1 t2
  have HBV : Hid (Below w.heap.size w V1) := hbV
  clear HX HN1 hP1 hb1 hXx hbV HR1 hmx hlt1
  go_upto_block 0 with (first | (go_at_call 5; refine HC.mono ?_; rintro e w2 ⟨v, l, rfl, hl60, hnd, hnear, hown, hb2⟩))
  obtain ⟨la, lc, rfl⟩ := ownS_any hown
  have HF0 : Hid (∃ tag d, FI w w2 tag d X M (.slice la l.length lc) l 0) := by
    refine ⟨_, _, HXH.out.net.below hb2, fun j hj => Nat.lt_of_lt_of_le (HXH.out.tagged j hj) hb2.size, rfl, rfl, rfl, rfl, rfl, ownS_mono hown (Nat.zero_le _), fun g hg => ?_, fun j hj => ?_, HBV.out.trans (hb2.mono HBV.out.size)⟩
    · have hown' : w2.ownsRow V1.heap.size 32 2 (.slice la l.length lc) l.length (cellsP l) := hown
      have hg0 := (hown'.lt g hg).1
      have hXl : X < V1.heap.size := by
        obtain ⟨_, _, _, _, hn⟩ := HXH.out.net
        exact hn.lt
      have := HMX.out.2
      simp only [if_neg (show g ≠ X by omega), if_neg (show g ≠ M by omega)]
    · obtain ⟨e1, e2⟩ := HMX.out
      simp only [if_neg (show j ≠ X by omega), if_neg (show j ≠ M by omega)]
  have HND : Hid (l.Nodup ∧ AllNear l ∧ l.length ≤ 60) := ⟨hnd, hnear, hl60⟩
  clear hown hb2 HC cx HXH HBV HMX hnd hnear
  generalize w2 = V2 at *
  go_cut [9, 10] (fun _ _ wx => ∃ tag d, FI w wx tag d X M (.slice la l.length lc) l l.length)
  case first =>
    as_aux_lemma =>
    go_wp2_with fail
    go_loopw [9, 10] (fun s9 _ wr => ∃ (k : Nat) (tag : Nat → Nat) (d : ND), k ≤ l.length ∧ s9 = .int .i64 k ∧ FI w wr tag d X M (.slice la l.length lc) l k) (fun s9 _ _ => l.length - (intOf s9).toNat)
    case atStart =>
      obtain ⟨tag, d, h⟩ := HF0.out
      exact ⟨0, tag, d, Nat.zero_le _, rfl, h⟩
    case round =>
      obtain ⟨k, tag, d, hk, rfl, hI⟩ := hrel
      have HI : Hid (FI w wr tag d X M (.slice la l.length lc) l k) := hI
      by_cases hlt : k < l.length
      · obtain ⟨g, rfl, hg, hP⟩ : ∃ g, la = some ⟨g, 0, none⟩ ∧ g < wr.heap.size ∧ PtsAt wr g 0 l := by
          rcases RowP.raw' hI.row with h | ⟨b, off, e, hb, hp⟩
          · rw [h] at hlt; simp at hlt
          · obtain ⟨g, e', hg, _⟩ := ownS_place hI.row (by omega)
            rw [e'] at e
            simp at e
            obtain ⟨rfl, rfl⟩ := e
            exact ⟨g, e', hg, hp⟩
        obtain ⟨d0, d1⟩ := hP k hlt
        rw [Nat.zero_add] at d0 d1
        have y0 : (0 : Int) ≤ (k : Int) := by omega
        have y1 : (k : Int) < (l.length : Int) := by omega
        have y2 : IntKind.i64.wrap ((k : Int) + 1) = (k : Int) + 1 := wrap_id (by omega) (by omega)
        have HCO := comes_any wr tag 1 d (l.getD k (0, 0)).1 (l.getD k (0, 0)).2 hI.net hI.tg (by decide) (HND.out.2.1 k hlt) (by rw [hI.ever]; omega)
        rw [hI.hX] at HCO
        have ep : Hid (((l.getD k (0, 0)).1, (l.getD k (0, 0)).2) = l.getD k (0, 0)) := rfl
        generalize (l.getD k (0, 0)).1 = qx at *
        generalize (l.getD k (0, 0)).2 = qy at *
        clear hI hP HF0
        go_wp2_with (first | (go_at_call 6; refine HCO.mono ?_; rintro e w3 ⟨rfl, tag', hp⟩))
        obtain ⟨d', hI'⟩ := HI.out.step HND.out.1 HND.out.2.2 hlt (by rw [ep.out] at hp; exact hp)
        have HI' : Hid (FI w w3 tag' d' X M (.slice (some ⟨g, 0, none⟩) l.length lc) l (k + 1)) := hI'
        clear hI' hp HI
        go_roundw
        case rel => exact ⟨k + 1, tag', d', by omega, by go_num, HI'.out⟩
        case measure => simp [intOf]; omega
      · have y1 : ¬ (k : Int) < (l.length : Int) := by omega
        have ek : k = l.length := by omega
        have HI' : Hid (FI w wr tag d X M (.slice la l.length lc) l l.length) := by rw [ek] at hI; exact hI
        clear HI hI ek HF0
        go_wp2
        go_meet
        exact ⟨tag, d, HI'.out⟩
  case rest =>
  as_aux_lemma =>
  obtain ⟨tag, d, hI⟩ := hcut
  have HI : Hid (FI w wc tag d X M (.slice la l.length lc) l l.length) := hI
  obtain ⟨vP, vN, vA, vM, hNA⟩ := hI.net
  have hfull := hI.full
  have HNA : Hid (NAt wc tag 1 d vP vN vA vM) := hNA
  have HFU : Hid (d.pts = l ∧ ∀ j, j < l.length → d.nums.getD j 0 = j) := hfull
  have HOK : Hid (MOk l d.nums d.ever) := by have := hNA.ok; rw [hfull.1] at this; exact this
  have x0 : wc.cell? ⟨X, 0, none⟩ = some (.pointer (some ⟨M, 0, none⟩)) := by have := hNA.cells.1; rw [hI.hX, hI.hm] at this; exact this
  have XW : X < wc.heap.size := by have := hNA.lt; rw [hI.hX] at this; exact this
  have HPR : Hid (∀ W, Below wc.heap.size wc W → PRow W M l d.nums d.ever vA vM) := fun W hb => by have := (HNA.out.below hb).row; rw [HFU.out.1, HI.out.hm] at this; exact this
  have HRW : Hid (RawAt wc la l) := RowP.raw' hI.row
  have HPL : Hid (0 < l.length → ∃ g, la = some ⟨g, 0, none⟩ ∧ g < wc.heap.size ∧ PtsAt wc g 0 l) := fun hpos => by
    rcases RowP.raw' hI.row with h | ⟨b, off, e, hb, hp⟩
    · rw [h] at hpos; simp at hpos
    · obtain ⟨g, e', hg, _⟩ := ownS_place hI.row hpos
      rw [e'] at e
      simp at e
      obtain ⟨rfl, rfl⟩ := e
      exact ⟨g, e', hg, hp⟩
  clear hI hNA hfull HF0
  generalize wc = V3 at *
  go_upto_block 2 with fail
  go_cut [11, 12, 13, 14, 15] (fun _ _ _ _ _ wx => Below V3.heap.size V3 wx)
  case first =>
    as_aux_lemma =>
    go_wp2_with fail
    go_loopw [11, 12, 13, 14, 15] (fun s11 _ _ _ _ wr => ∃ kk : Nat, kk ≤ l.length ∧ s11 = .int .i64 kk ∧ Below V3.heap.size V3 wr) (fun s11 _ _ _ _ _ => l.length - (intOf s11).toNat)
    case atStart => exact ⟨0, Nat.zero_le _, rfl, Below.refl _ _⟩
    case round =>
      obtain ⟨kk, hkk, rfl, hbr⟩ := hrel
      by_cases hlt : kk < l.length
      · obtain ⟨g, rfl, hg, hP⟩ := HPL.out (by omega)
        obtain ⟨d0, d1⟩ := (hP.below hbr hg) kk hlt
        rw [Nat.zero_add] at d0 d1
        have gW := Nat.lt_of_lt_of_le hg hbr.size
        have x0 := (hbr.cell (p := ⟨X, 0, none⟩) XW).trans x0
        have XW := Nat.lt_of_lt_of_le XW hbr.size
        have y1 : (kk : Int) < (l.length : Int) := by omega
        have y2 : IntKind.i64.wrap ((kk : Int) + 1) = (kk : Int) + 1 := wrap_id (by omega) (by omega)
        have LC : ∀ W, Below wr.heap.size wr W → Calls Tryz.prog 7 #[.pointer (some ⟨M, 0, none⟩), .agg #[.int .i64 (l.getD kk (0, 0)).1, .int .i64 (l.getD kk (0, 0)).2]] W fun e w' => e = .returned (.tuple #[.agg #[.int .i64 3, .int .i64 (kk : Int), .int .i64 (-1), .int .i64 (-1)], .int .i64 0]) ∧ Below W.heap.size W w' := fun W hb =>
          (mlocate_any M l d.nums d.ever vA vM _ _ W (HPR.out W (hbr.trans (hb.mono hbr.size))) HOK.out).mono fun e w' ⟨k, a, b, c, r, he, hL, hb2⟩ => by
            obtain ⟨rfl, rfl, rfl, rfl, rfl⟩ := self_loc HOK.out HFU.out.2 hlt (show LocA l d.nums (ptAt l kk) k a b c r from hL)
            exact ⟨he, hb2⟩
        have NR : ∀ W, Below wr.heap.size wr W → Calls Tryz.prog 8 #[.pointer (some ⟨M, 0, none⟩), .agg #[.int .i64 (l.getD kk (0, 0)).1, .int .i64 (l.getD kk (0, 0)).2]] W fun e w' => e = .returned (.tuple #[.int .i64 (kk : Int), .int .i64 0]) ∧ Below W.heap.size W w' := fun W hb =>
          (mnear_any M l d.nums d.ever vA vM _ _ W (HPR.out W (hbr.trans (hb.mono hbr.size))) HOK.out).mono fun e w' ⟨n, r, he, hN, hb2⟩ => by
            obtain ⟨rfl, rfl⟩ := self_near HOK.out HFU.out.2 hlt (show NearP' l d.nums (ptAt l kk) n r from hN)
            exact ⟨he, hb2⟩
        generalize (l.getD kk (0, 0)).1 = qx at *
        generalize (l.getD kk (0, 0)).2 = qy at *
        have HNRR := Lib.hid NR
        clear hP NR
        go_wp2_with fail
        go_cut [12, 13] (fun s12 s13 wx => ∃ Q, s12 = .pointer (some ⟨Q, 0, none⟩) ∧ s13 = .int .i64 0 ∧ wx.heap[Q]? = some (.cells #[.int .i64 3, .int .i64 (kk : Int), .int .i64 (-1), .int .i64 (-1)] 35 (0, 0)) ∧ Below wr.heap.size wr wx)
        case first =>
          as_aux_lemma =>
          have HKD := kdF14_put X M g l.length lc kk qx qy
          refine wp_region_inv (m := 15) (by kernel_rfl) (by kernel_rfl) (dsts := [some 59, some 60, some 61, some 62, some 63, some 64, some 65, some 66, some 67, some 58, some 68, some 69, some 12, none, some 13]) rfl (by kernel_rfl) (l := []) rfl (SowX wr (kdF14 X M g l.length lc kk qx qy)) (SowX.start _ _ _) ?_ ?_
          · refine (flS (flS (flS (flS (flS (flS (flS (flS (flS (flS (flS (flS (flS (flS (flS fl0 ?_) ?_) ?_) ?_) ?_) ?_) ?_) ?_) ?_) ?_) ?_) ?_) ?_) ?_) ?_)
            all_goals intro Ls σ wx hS hp hdn hun
            · exact (gives_move (x := .tmp 7) rfl rfl (hS.stepV (i := 0) rfl)).toS
            · exact (gives_nil (x := .tmp 59) rfl (show σ 0 = _ from hS.val 0 _ rfl (hp 0 rfl)) (hS.stepV (i := 1) rfl)).toS
            · exact (gives_field (T := 28) (x := .tmp 60) rfl (show σ 1 = _ from hS.val 1 _ rfl (hp 1 rfl)) (run_fieldN0 _ _) (hS.stepV (i := 2) rfl)).toS
            · exact (gives_load (T := 24) (x := .tmp 61) rfl (show σ 2 = _ from hS.val 2 _ rfl (hp 2 rfl)) (run_load_mpX _ _ _ ((hS.bel.cell (p := ⟨X, 0, none⟩) XW).trans x0)) (hS.stepV (i := 3) rfl)).toS
            · exact (gives_move (x := .tmp 8) rfl rfl (hS.stepV (i := 4) rfl)).toS
            · exact (gives_move (x := .tmp 11) rfl rfl (hS.stepV (i := 5) rfl)).toS
            · exact (gives_index (T := 22) (x := .tmp 63) (y := .tmp 64) rfl (show σ 4 = _ from hS.val 4 _ rfl (hp 4 rfl)) (show σ 5 = _ from hS.val 5 _ rfl (hp 5 rfl)) (run_index_pt _ _ _ _ _ hlt) (hS.stepV (i := 6) rfl)).toS
            · exact (gives_load (T := 32) (x := .tmp 65) rfl (show σ 6 = _ from hS.val 6 _ rfl (hp 6 rfl)) (run_load_pt _ _ _ _ _ ((hS.bel.cell (p := ⟨g, kk * 2, none⟩) gW).trans d0) ((hS.bel.cell (p := ⟨g, kk * 2 + 1, none⟩) gW).trans d1)) (hS.stepV (i := 7) rfl)).toS
            · have e3 : σ 3 = _ := hS.val 3 _ rfl (hp 3 rfl)
              have e7 : σ 7 = _ := hS.val 7 _ rfl (hp 7 rfl)
              exact (gives_call (f := 7) (args := [.pointer (some ⟨M, 0, none⟩), .agg #[.int .i64 qx, .int .i64 qy]]) rfl rfl (by show [σ 3, σ 7] = _; rw [e3, e7]) (by go_simp) ((LC wx hS.bel).mono fun e w' h => ⟨_, h.1, hS.stepC (i := 8) rfl h.2⟩)).toS
            · exact (gives_move (x := .tmp 67) rfl (show σ 8 = _ from hS.val 8 _ rfl (hp 8 rfl)) (hS.stepV (i := 9) rfl)).toS
            · exact (gives_extractX (x := .tmp 58) (i := 0) rfl (show σ 9 = _ from hS.val 9 _ rfl (hp 9 rfl)) rfl (hS.stepV (i := 10) rfl)).toS
            · exact (gives_extractX (x := .tmp 58) (i := 1) rfl (show σ 9 = _ from hS.val 9 _ rfl (hp 9 rfl)) rfl (hS.stepV (i := 11) rfl)).toS
            · refine (gives_alloc (T := 35) rfl (run_alloc_placeX _) (hS.stepF (i := 12) rfl (fun q c hq => ?_))).toS
              have hq2 : q = 13 := HKD q 12 c hq (by omega)
              subst hq2
              cases hlq : Ls 13 with
              | false => rfl
              | true => have := hdn 13 12 hlq rfl; rw [hun] at this; cases this
            · obtain ⟨bb, cur, e1, e2, e3, e4, e5⟩ := hS.fre 12 _ _ rfl (hp 12 rfl)
              obtain ⟨wn, s1, s2, s3, s4⟩ := st_place e3 e4
              exact gives_store (T := 35) (x := .tmp 12) (y := .tmp 68) rfl (show σ 12 = _ from e1) (show σ 10 = _ from hS.val 10 _ rfl (hp 10 rfl)) s1 (hS.stepP (i := 13) rfl rfl rfl (hp 12 rfl) e1 (fun q c hq => HKD q 12 c hq (by omega)) s2 s3 s4)
            · exact (gives_asgF (x := .tmp 69) rfl (show σ 11 = _ from hS.val 11 _ rfl (hp 11 rfl)) (hS.stepV (i := 14) rfl)).toS
          · intro Ls σ wx hS hall
            obtain ⟨b12, c12, e12, g12, hh12, hz12, hu12⟩ := hS.fre 12 _ _ rfl (hall 12 (by omega))
            obtain rfl := hu12 13 _ rfl (hall 13 (by omega))
            have e14 : σ 14 = .int .i64 0 := hS.val 14 _ rfl (hall 14 (by omega))
            refine ⟨?_⟩
            simp only [lay, Act.put, List.drop_succ_cons, List.drop_zero, List.setIfInBounds_toArray, List.set_cons_succ, List.set_cons_zero, e12, e14]
            go_wp2_with fail
            go_meet
            exact ⟨b12, rfl, rfl, hh12, hS.bel⟩
        case rest =>
        as_aux_lemma =>
        obtain ⟨Q, rfl, rfl, hQ, hbq⟩ := hcut
        have NR : ∀ W, Below wc.heap.size wc W → Calls Tryz.prog 8 #[.pointer (some ⟨M, 0, none⟩), .agg #[.int .i64 qx, .int .i64 qy]] W fun e w' => e = .returned (.tuple #[.int .i64 (kk : Int), .int .i64 0]) ∧ Below W.heap.size W w' := fun W hb => HNRR.out W (hbq.trans (hb.mono hbq.size))
        replace d0 := (hbq.cell (p := ⟨g, kk * 2, none⟩) gW).trans d0
        replace d1 := (hbq.cell (p := ⟨g, kk * 2 + 1, none⟩) gW).trans d1
        replace x0 := (hbq.cell (p := ⟨X, 0, none⟩) XW).trans x0
        replace XW := Nat.lt_of_lt_of_le XW hbq.size
        replace gW := Nat.lt_of_lt_of_le gW hbq.size
        replace hbr := hbr.trans (hbq.mono hbr.size)
        clear LC HNRR hbq
        generalize wc = V4 at *
        go_wp2_with fail
        go_cut [14, 15] (fun s14 s15 wx => s14 = .int .i64 (kk : Int) ∧ s15 = .int .i64 0 ∧ Below V4.heap.size V4 wx)
        case first =>
          as_aux_lemma =>
          refine wp_region_invG (m := 14) (by kernel_rfl) (by kernel_rfl) (by kernel_rfl) (dsts := [some 71, some 72, some 73, some 74, some 75, some 76, some 77, some 78, some 79, some 70, some 80, some 81, some 14, some 15]) rfl (by kernel_rfl) (l := []) rfl (ValG V4 (valsF15 X M g l.length lc kk qx qy)) ⟨(fun _ h => by cases h), (Below.refl _ _).drew⟩ ?_ ?_
          · refine (flS (flS (flS (flS (flS (flS (flS (flS (flS (flS (flS (flS (flS (flS fl0 ?_) ?_) ?_) ?_) ?_) ?_) ?_) ?_) ?_) ?_) ?_) ?_) ?_) ?_)
            all_goals intro Ls σ wx hS hp hdn hun
            · exact runs rfl (gives_move (x := .tmp 7) rfl rfl (hS.step (i := 0) hS.bel)).toS
            · exact runs rfl (gives_nil (x := .tmp 71) rfl (show σ 0 = _ from hS.val 0 (hp 0 rfl)) (hS.step (i := 1) hS.bel)).toS
            · exact runs rfl (gives_field (T := 28) (x := .tmp 72) rfl (show σ 1 = _ from hS.val 1 (hp 1 rfl)) (run_fieldN0 _ _) (hS.step (i := 2) hS.bel)).toS
            · exact runs rfl (gives_load (T := 24) (x := .tmp 73) rfl (show σ 2 = _ from hS.val 2 (hp 2 rfl)) (run_load_mpX _ _ _ ((hS.bel.cell (p := ⟨X, 0, none⟩) XW).trans x0)) (hS.step (i := 3) hS.bel)).toS
            · exact runs rfl (gives_move (x := .tmp 8) rfl rfl (hS.step (i := 4) hS.bel)).toS
            · exact runs rfl (gives_move (x := .tmp 11) rfl rfl (hS.step (i := 5) hS.bel)).toS
            · exact runs rfl (gives_index (T := 22) (x := .tmp 75) (y := .tmp 76) rfl (show σ 4 = _ from hS.val 4 (hp 4 rfl)) (show σ 5 = _ from hS.val 5 (hp 5 rfl)) (run_index_pt _ _ _ _ _ hlt) (hS.step (i := 6) hS.bel)).toS
            · exact runs rfl (gives_load (T := 32) (x := .tmp 77) rfl (show σ 6 = _ from hS.val 6 (hp 6 rfl)) (run_load_pt _ _ _ _ _ ((hS.bel.cell (p := ⟨g, kk * 2, none⟩) gW).trans d0) ((hS.bel.cell (p := ⟨g, kk * 2 + 1, none⟩) gW).trans d1)) (hS.step (i := 7) hS.bel)).toS
            · have e3 : σ 3 = _ := hS.val 3 (hp 3 rfl)
              have e7 : σ 7 = _ := hS.val 7 (hp 7 rfl)
              exact runs rfl (gives_call (f := 8) (args := [.pointer (some ⟨M, 0, none⟩), .agg #[.int .i64 qx, .int .i64 qy]]) rfl rfl (by show [σ 3, σ 7] = _; rw [e3, e7]; rfl) (by go_simp) ((NR wx hS.bel).mono fun e w' h => ⟨_, h.1, hS.step (i := 8) (hS.bel.trans (h.2.mono hS.bel.size))⟩)).toS
            · exact runs rfl (gives_move (x := .tmp 79) rfl (show σ 8 = _ from hS.val 8 (hp 8 rfl)) (hS.step (i := 9) hS.bel)).toS
            · exact runs rfl (gives_extractX (x := .tmp 70) (i := 0) rfl (show σ 9 = _ from hS.val 9 (hp 9 rfl)) rfl (hS.step (i := 10) hS.bel)).toS
            · exact runs rfl (gives_extractX (x := .tmp 70) (i := 1) rfl (show σ 9 = _ from hS.val 9 (hp 9 rfl)) rfl (hS.step (i := 11) hS.bel)).toS
            · exact runs rfl (gives_asgF (x := .tmp 80) rfl (show σ 10 = _ from hS.val 10 (hp 10 rfl)) (hS.step (i := 12) hS.bel)).toS
            · exact runs rfl (gives_asgF (x := .tmp 81) rfl (show σ 11 = _ from hS.val 11 (hp 11 rfl)) (hS.step (i := 13) hS.bel)).toS
          · intro Ls σ wx hS hall
            have e12 : σ 12 = .int .i64 (kk : Int) := hS.val 12 (hall 12 (by omega))
            have e13 : σ 13 = .int .i64 0 := hS.val 13 (hall 13 (by omega))
            have hbx := hS.bel
            clear hS
            refine ⟨?_⟩
            simp only [lay, Act.put, List.drop_succ_cons, List.drop_zero, List.setIfInBounds_toArray, List.set_cons_succ, List.set_cons_zero, e12, e13]
            go_wp2_with fail
            go_meet
            exact ⟨rfl, rfl, hbx⟩
        case rest =>
        as_aux_lemma =>
        obtain ⟨rfl, rfl, hbq⟩ := hcut
        have hQl := lt_some hQ
        replace hQ : wc.heap[Q]? = _ := (hbq.block Q hQl).trans hQ
        replace hbr := hbr.trans (hbq.mono hbr.size)
        have z0 : wc.cell? ⟨Q, 0, none⟩ = some (.int .i64 3) := cell_of_heap hQ 0
        have z1 : wc.cell? ⟨Q, 1, none⟩ = some (.int .i64 (kk : Int)) := cell_of_heap hQ 1
        have z2 : wc.cell? ⟨Q, 2, none⟩ = some (.int .i64 (-1)) := cell_of_heap hQ 2
        have z3 : wc.cell? ⟨Q, 3, none⟩ = some (.int .i64 (-1)) := cell_of_heap hQ 3
        have heq := eqPlaceF 3 (kk : Int) (-1) (-1)
        have hn1 : ((kk : Int) != (kk : Int)) = false := by simp
        clear hQ NR d0 d1 x0 hbq hQl
        go_wp2
        go_roundw
        case rel => exact ⟨kk + 1, by omega, by go_num, hbr⟩
        case measure => simp [intOf]; omega
      · have y1 : ¬ (kk : Int) < (l.length : Int) := by omega
        go_wp2
        go_meet
        exact hbr
  case rest =>
  as_aux_lemma =>
  have HI4 : Hid (FI w wc tag d X M (.slice la l.length lc) l l.length) := HI.out.below hcut
  have NT := ntris_any wc tag 1 d HI4.out.net
  rw [HI4.out.hX] at NT
  clear HPR HNA HRW HPL HI x0 XW hcut
  generalize wc = V5 at *
  go_upto_block 4 with (first | (go_at_call 9; refine NT.mono ?_; rintro e w6 ⟨tv, ts, rfl, hown, hS, hlen, hb6⟩))
  obtain ⟨ta, tc, rfl⟩ := ownS_any hown
  have HI6 : Hid (FI w w6 tag d X M (.slice la l.length lc) l l.length) := HI4.out.below hb6
  have HTS : Hid (w6.ownsRow V5.heap.size 53 3 (.slice ta ts.length tc) ts.length (flatT ts) ∧ TriSpec d.pts ts ∧ ts.length ≤ 4000) := ⟨hown, hS, hlen⟩
  clear hown hS hlen hb6 NT HI4
  generalize w6 = V6 at *
  go_cut [18, 19] (fun _ _ wx => Below V6.heap.size V6 wx)
  case first =>
    as_aux_lemma =>
    go_wp2_with fail
    go_loopw [18, 19] (fun s18 _ wr => ∃ k : Nat, k ≤ qs.length ∧ k ≤ 20 ∧ s18 = .int .i64 k ∧ Below V6.heap.size V6 wr) (fun s18 _ _ => qs.length - (intOf s18).toNat)
    case atStart => exact ⟨0, Nat.zero_le _, by omega, rfl, Below.refl _ _⟩
    case round =>
      obtain ⟨k, hk, hk20, rfl, hbr⟩ := hrel
      by_cases hlt : k < qs.length
      · by_cases h20 : k < 20
        · have hI := HI6.out.below hbr
          rcases raw_below HR2.out.1 hI.bel with h | ⟨b, off, rfl, hb, hp⟩
          · rw [h] at hlt; simp at hlt
          obtain ⟨d0, d1⟩ := hp k hlt
          have hmem : qs.getD k (0, 0) ∈ qs := by
            have : qs.getD k (0, 0) = qs[k] := by simp [hlt]
            rw [this]; exact List.getElem_mem hlt
          obtain ⟨⟨x1, x2⟩, ⟨z1, z2⟩⟩ := HR2.out.2.1 _ hmem
          have y0 : (0 : Int) ≤ (k : Int) := by omega
          have y1 : (k : Int) < (qs.length : Int) := by omega
          have y2 : (k : Int) < 20 := by omega
          have y4 : IntKind.i64.wrap ((k : Int) + 1) = (k : Int) + 1 := wrap_id (by omega) (by omega)
          have HPT := fun W => point_any (qs.getD k (0, 0)).1 (qs.getD k (0, 0)).2 step W x1 x2 z1 z2 t1 t2
          have HNP : Hid (Near (ptX (qs.getD k (0, 0)).1 step) (ptY (qs.getD k (0, 0)).2 step)) := near_pt _ _ step
          have HAS : Hid (∀ W, Below wr.heap.size wr W → Calls Tryz.prog 10 #[.pointer (some ⟨X, 0, none⟩), .slice ta ts.length tc, .agg #[.int .i64 (ptX (qs.getD k (0, 0)).1 step), .int .i64 (ptY (qs.getD k (0, 0)).2 step)]] W fun e w' => e = .returned (.bool true) ∧ Below W.heap.size W w') := fun W hb => by
            have hb' := hbr.trans (hb.mono hbr.size)
            have := asked_any W tag 1 V5.heap.size d (.slice ta ts.length tc) ts _ _ (HI6.out.below hb').net (ownB_below HTS.out.1 hb') HTS.out.2.1 HTS.out.2.2 HNP.out
            rw [HI6.out.hX] at this
            exact this
          clear hmem hp hI HNP
          generalize (qs.getD k (0, 0)).1 = xr at *
          generalize (qs.getD k (0, 0)).2 = yr at *
          generalize ptX xr step = qx at *
          generalize ptY yr step = qy at *
          go_wp2_with (first
            | (go_at_call 11; refine (HPT _).mono ?_; rintro e w7 ⟨rfl, hb7⟩)
            | (go_at_call 10; refine (HAS.out _ hb7).mono ?_; rintro e w8 ⟨rfl, hb8⟩))
          have hbz := (hbr.trans (hb7.mono hbr.size))
          have hbz := hbz.trans (hb8.mono hbz.size)
          clear hb7 hb8 HAS HPT d0 d1
          go_roundw
          case rel => exact ⟨k + 1, by omega, by omega, by go_num, hbz⟩
          case measure => simp [intOf]; omega
        · have y1 : (k : Int) < (qs.length : Int) := by omega
          have y2 : ¬ (k : Int) < 20 := by omega
          go_wp2
          go_meet
          exact hbr
      · have y1 : ¬ (k : Int) < (qs.length : Int) := by omega
        go_wp2
        go_meet
        exact hbr
  case rest =>
  as_aux_lemma =>
  have HI7 : Hid (FI w wc tag d X M (.slice la l.length lc) l l.length) := HI6.out.below hcut
  clear HI6 HTS HR2 hcut
  generalize wc = V7 at *
  have hX0 : ∀ W, Below V7.heap.size V7 W → W.cell? ⟨X, 0, none⟩ = some (.pointer (some ⟨M, 0, none⟩)) := fun W hb => by
    obtain ⟨_, _, _, _, hn⟩ := (HI7.out.below hb).net
    have := hn.cells.1
    rw [HI7.out.hX, HI7.out.hm] at this
    exact this
  have LF : Hid (∀ W, Below V7.heap.size V7 W → Calls Tryz.prog 7 #[.pointer (some ⟨M, 0, none⟩), .agg #[.int .i64 8001, .int .i64 0]] W fun e w' => e = .returned (.tuple #[.agg #[.int .i64 0, .int .i64 0, .int .i64 0, .int .i64 0], .int .i64 1]) ∧ Below W.heap.size W w') := fun W hb => by
    obtain ⟨_, _, vA2, vM2, hn⟩ := (HI7.out.below hb).net
    have hr := hn.row
    rw [HI7.out.hm] at hr
    exact (mlocate_any M d.pts d.nums d.ever vA2 vM2 8001 0 W hr hn.ok).mono fun e w' ⟨k, a, b, c, r, he, hL, hb2⟩ => by
      rcases hL with ⟨_, rfl, rfl, rfl, rfl, rfl⟩ | ⟨f, _⟩
      · exact ⟨he, hb2⟩
      · have : farB 8001 0 = true := by decide
        simp only [this] at f; cases f
  have NF : Hid (∀ W, Below V7.heap.size V7 W → Calls Tryz.prog 8 #[.pointer (some ⟨M, 0, none⟩), .agg #[.int .i64 0, .int .i64 (-8001)]] W fun e w' => e = .returned (.tuple #[.int .i64 0, .int .i64 1]) ∧ Below W.heap.size W w') := fun W hb => by
    obtain ⟨_, _, vA2, vM2, hn⟩ := (HI7.out.below hb).net
    have hr := hn.row
    rw [HI7.out.hm] at hr
    exact (mnear_any M d.pts d.nums d.ever vA2 vM2 0 (-8001) W hr hn.ok).mono fun e w' ⟨n, r, he, hN, hb2⟩ => by
      have hf : farB 0 (-8001) = true := by decide
      rcases hN with ⟨_, rfl, rfl⟩ | ⟨f, _⟩ | ⟨f, _⟩
      · exact ⟨he, hb2⟩
      · simp only [hf] at f; cases f
      · simp only [hf] at f; cases f
  have NN : Hid (∀ W M2, PRow W M2 [] [] 0 (.slice none 0 0) (.slice none 0 0) → Calls Tryz.prog 8 #[.pointer (some ⟨M2, 0, none⟩), .agg #[.int .i64 0, .int .i64 0]] W fun e w' => e = .returned (.tuple #[.int .i64 0, .int .i64 4]) ∧ Below W.heap.size W w') := fun W M2 hr =>
    (mnear_any M2 [] [] 0 (.slice none 0 0) (.slice none 0 0) 0 0 W hr ⟨rfl, by simp, (fun i h => by cases h), List.nodup_nil, List.Pairwise.nil, (fun n h => by cases h)⟩).mono fun e w' ⟨n, r, he, hN, hb2⟩ => by
      have hf : farB 0 0 = false := by decide
      rcases hN with ⟨f, _⟩ | ⟨_, _, rfl, rfl⟩ | ⟨_, h, _⟩
      · simp only [hf] at f; cases f
      · exact ⟨he, hb2⟩
      · exact absurd rfl h
  have x0 := hX0 V7 (Below.refl _ _)
  have HX0 := Lib.hid hX0
  clear hX0
  have LFV := LF.out V7 (Below.refl _ _)
  go_upto_region 28 with (first | (go_at_call 7; refine LFV.mono ?_; rintro e w8 ⟨rfl, hb8⟩))
  have hB8 : Below V7.heap.size V7 (w8.alloc (.cells #[.int .i64 0, .int .i64 0, .int .i64 0, .int .i64 0] 35)) := hb8.trans ((below1 _ _).mono hb8.size)
  generalize w8.alloc (.cells #[.int .i64 0, .int .i64 0, .int .i64 0, .int .i64 0] 35) = V8 at *
  have x0 := HX0.out V8 hB8
  have NFV := NF.out V8 hB8
  clear LFV hb8
  go_upto_region 29 with (first | (go_at_call 8; refine NFV.mono ?_; rintro e w9 ⟨rfl, hb9⟩))
  have hB9 := hB8.trans (hb9.mono hB8.size)
  have HN9 := mnew_any w9
  clear NFV hb9 x0
  go_upto_region 32 with (first | (go_at_call 4; refine HN9.mono ?_; rintro e w10 ⟨rfl, hP10, hb10⟩))
  have NNV := NN.out w10 _ hP10
  have hB10 := hB9.trans (hb10.mono hB9.size)
  clear hP10 hb10 HN9
  go_wp2_with (first | (go_at_call 8; refine NNV.mono ?_; rintro e w11 ⟨rfl, hb11⟩))
  go_ret
  exact ⟨rfl, HI7.out.bel.trans ((hB10.trans (hb11.mono hB10.size)).mono HI7.out.bel.size)⟩
end Go.Proofs.YtgpapegpdfonpaaGreat

