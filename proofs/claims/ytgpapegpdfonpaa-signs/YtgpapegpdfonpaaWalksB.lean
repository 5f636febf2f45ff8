/-
  Circles and sides asked by numbers; Orient and InCircle.
-/
import Derived.Test.YtgpapegpdfonpaaWalksA
import Derived.Test.YtgpapegpdfonpaaGrow
namespace Go.Proofs.Ytgpapegpdfonpaa
set_option linter.unusedVariables false
set_option linter.unusedSimpArgs false
open Go.RowKit
attribute [local go_sem ↓] Go.wp_at_zero Go.wp_at_succ

/-- A new variable: a block of its own, as it was laid. -/
def Fresh (z : Array Value) (T : TypeId) (v : Value) (s e : Nat) (w : World) : Prop :=
  ∃ b, v = .pointer (some ⟨b, 0, none⟩) ∧ s ≤ b ∧ b < e ∧ b < w.heap.size ∧ w.heap[b]? = some (.cells z T)

theorem Fresh.keep {z : Array Value} {T : TypeId} {v : Value} {s e : Nat} {w w' : World} (h : Fresh z T v s e w) (hb : Below w.heap.size w w') : Fresh z T v s e w' := by
  obtain ⟨b, h1, h2, h3, h4, h5⟩ := h
  exact ⟨b, h1, h2, h3, Nat.lt_of_lt_of_le h4 hb.size, by rw [hb.block b h4]; exact h5⟩

theorem Fresh.new (z : Array Value) (T : TypeId) (w : World) : Fresh z T (.pointer (some ⟨w.heap.size, 0, none⟩)) w.heap.size (w.alloc (.cells z T)).heap.size (w.alloc (.cells z T)) :=
  ⟨w.heap.size, rfl, Nat.le_refl _, by simp, by simp, by simp only [World.alloc, Array.getElem?_push_size]⟩

theorem cell_of_heap {w : World} {b : Nat} {z : Array Value} {T : TypeId} (h : w.heap[b]? = some (.cells z T)) (i : Nat) : w.cell? ⟨b, i, none⟩ = z[i]? := by
  simp [World.cell?, h]
theorem frozen_of_heap {w : World} {b : Nat} {z : Array Value} {T : TypeId} (h : w.heap[b]? = some (.cells z T)) (i : Nat) : w.frozen? ⟨b, i, none⟩ = false := by
  simp [World.frozen?, h]

/-! ### two cells of a new variable, stored -/
theorem put2_at {w : World} {b : Nat} {z : Array Value} {T : TypeId} (h : w.heap[b]? = some (.cells z T)) (hz : z.size = 2) (x y : Value) :
    ((w.setCell ⟨b, 0, none⟩ x).setCell ⟨b, 1, none⟩ y).heap[b]? = some (.cells #[x, y] T) := by
  simp only [World.setCell, Array.getElem?_modify, if_true, h, Option.map_some]
  simp only [Option.isSome_none, Bool.false_eq_true, if_false]
  obtain ⟨l⟩ := z
  match l, hz with
  | [p, q], _ => simp
theorem put2_ne (w : World) {b c : Nat} (h : c ≠ b) (x y : Value) : ((w.setCell ⟨b, 0, none⟩ x).setCell ⟨b, 1, none⟩ y).heap[c]? = w.heap[c]? := by
  rw [Below.heap_setCell _ _ _ _ h, Below.heap_setCell _ _ _ _ h]
theorem put2_size (w : World) (b : Nat) (x y : Value) : ((w.setCell ⟨b, 0, none⟩ x).setCell ⟨b, 1, none⟩ y).heap.size = w.heap.size := by
  simp [World.setCell]
theorem put2_below {N : Nat} {W w : World} {b : Nat} (h : Below N W w) (hb : N ≤ b) (x y : Value) : Below N W ((w.setCell ⟨b, 0, none⟩ x).setCell ⟨b, 1, none⟩ y) :=
  (h.setCell (p := ⟨b, 0, none⟩) hb x).setCell (p := ⟨b, 1, none⟩) hb y

theorem three_vars {W wx V1 V2 V3 : World} {b9 b10 b11 : Nat} {T : TypeId} {x1 y1 x2 y2 x3 y3 : Value} (h : Below W.heap.size W wx) (g9 : W.heap.size ≤ b9) (g10 : W.heap.size ≤ b10) (g11 : W.heap.size ≤ b11)
    (n1 : b9 ≠ b10) (n2 : b9 ≠ b11) (n3 : b10 ≠ b11) (h9 : wx.heap[b9]? = some (.cells #[.int .i64 0, .int .i64 0] T)) (h10 : wx.heap[b10]? = some (.cells #[.int .i64 0, .int .i64 0] T)) (h11 : wx.heap[b11]? = some (.cells #[.int .i64 0, .int .i64 0] T))
    (e1 : (wx.setCell ⟨b9, 0, none⟩ x1).setCell ⟨b9, 1, none⟩ y1 = V1) (e2 : (V1.setCell ⟨b10, 0, none⟩ x2).setCell ⟨b10, 1, none⟩ y2 = V2) (e3 : (V2.setCell ⟨b11, 0, none⟩ x3).setCell ⟨b11, 1, none⟩ y3 = V3) :
    Below W.heap.size W V3 ∧ V3.heap[b9]? = some (.cells #[x1, y1] T) ∧ V3.heap[b10]? = some (.cells #[x2, y2] T) ∧ V3.heap[b11]? = some (.cells #[x3, y3] T) ∧ V3.heap.size = wx.heap.size := by
  subst e1; subst e2; subst e3
  refine ⟨put2_below (put2_below (put2_below h g9 _ _) g10 _ _) g11 _ _, ?_, ?_, ?_, by rw [put2_size, put2_size, put2_size]⟩
  · rw [put2_ne _ n2, put2_ne _ n1, put2_at h9 rfl]
  · rw [put2_ne _ n3, put2_at (by rw [put2_ne _ (Ne.symm n1)]; exact h10) rfl]
  · rw [put2_at (by rw [put2_ne _ (Ne.symm n3), put2_ne _ (Ne.symm n2)]; exact h11) rfl]

theorem sqcr_bd (s1 s2 t1 t2 u1 u2 : Int) (B1 : -16000 ≤ s1 ∧ s1 ≤ 16000) (B2 : -16000 ≤ s2 ∧ s2 ≤ 16000) (B3 : -16000 ≤ t1 ∧ t1 ≤ 16000) (B4 : -16000 ≤ t2 ∧ t2 ≤ 16000) (B5 : -16000 ≤ u1 ∧ u1 ≤ 16000) (B6 : -16000 ≤ u2 ∧ u2 ≤ 16000) :
    -262144000000000000 ≤ (s1 * s1 + s2 * s2) * (t1 * u2 - t2 * u1) ∧ (s1 * s1 + s2 * s2) * (t1 * u2 - t2 * u1) ≤ 262144000000000000 := by
  have m1 := @mul_bd s1 s1 16000 16000 (by omega) (by omega) (by omega) (by omega)
  have m2 := @mul_bd s2 s2 16000 16000 (by omega) (by omega) (by omega) (by omega)
  have m3 := @mul_bd t1 u2 16000 16000 (by omega) (by omega) (by omega) (by omega)
  have m4 := @mul_bd t2 u1 16000 16000 (by omega) (by omega) (by omega) (by omega)
  have := @mul_bd (s1 * s1 + s2 * s2) (t1 * u2 - t2 * u1) 512000000 512000000 (by omega) (by omega) (by omega) (by omega)
  omega

/-- the document's number of a circle -/
def circN (ax ay bx by' cx cy dx dy : Int) : Int :=
  ((ax - dx) * (ax - dx) + (ay - dy) * (ay - dy)) * ((bx - dx) * (cy - dy) - (by' - dy) * (cx - dx)) +
  ((bx - dx) * (bx - dx) + (by' - dy) * (by' - dy)) * ((cx - dx) * (ay - dy) - (cy - dy) * (ax - dx)) +
  ((cx - dx) * (cx - dx) + (cy - dy) * (cy - dy)) * ((ax - dx) * (by' - dy) - (ay - dy) * (bx - dx))

theorem run_load_pt (w : World) (b off : Nat) (x y : Int) (h0 : w.cell? ⟨b, off, none⟩ = some (.int .i64 x)) (h1 : w.cell? ⟨b, off + 1, none⟩ = some (.int .i64 y)) :
    (Instr.loadAt 23 (.pointer (some ⟨b, off, none⟩))).run Try.prog w = .ok (.agg #[.int .i64 x, .int .i64 y]) w := by go_simp
theorem run_alloc_pt (w : World) : (Instr.alloc 23 true (.tuple #[])).run Try.prog w = .ok (.pointer (some ⟨w.heap.size, 0, none⟩)) (w.alloc (.cells #[.int .i64 0, .int .i64 0] 23)) := by go_simp
theorem run_alloc_step (w : World) : (Instr.alloc 97 true (.tuple #[])).run Try.prog w = .ok (.pointer (some ⟨w.heap.size, 0, none⟩)) (w.alloc (.cells #[.int .i64 0, .int .i64 0] 97)) := by go_simp

abbrev pv (x y : Int) : Value := .agg #[.int .i64 x, .int .i64 y]

set_option maxHeartbeats 1000000 in
theorem pcircle_any (ax ay bx by' cx cy dx dy : Int) (w : World) (a : Near ax ay) (b : Near bx by') (c : Near cx cy) (d : Near dx dy) :
    Calls Try.prog 49 #[.agg #[.int .i64 ax, .int .i64 ay], .agg #[.int .i64 bx, .int .i64 by'], .agg #[.int .i64 cx, .int .i64 cy], .agg #[.int .i64 dx, .int .i64 dy]] w fun e w' =>
      e = .returned (.int .i64 (sg (sideN ax ay bx by' cx cy) * sg (circN ax ay bx by' cx cy dx dy))) ∧ Below w.heap.size w w' := by
  have ha := a; have hb := b; have hc := c; have hd := d
  obtain ⟨a1, a2, a3, a4⟩ := a; obtain ⟨b1, b2, b3, b4⟩ := b; obtain ⟨c1, c2, c3, c4⟩ := c; obtain ⟨d1, d2, d3, d4⟩ := d
  go_enter Try.func49, Try.ntmps49
  go_wp2_with fail
  generalize hW : ((((w.alloc (.cells #[.int .i64 ax, .int .i64 ay] 23)).alloc (.cells #[.int .i64 bx, .int .i64 by'] 23)).alloc (.cells #[.int .i64 cx, .int .i64 cy] 23)).alloc (.cells #[.int .i64 dx, .int .i64 dy] 23)) = W
  have hb0 : Below w.heap.size w W := by rw [← hW]; exact below4 _ _ _ _ _
  have hsz : W.heap.size = w.heap.size + 1 + 1 + 1 + 1 := by rw [← hW]; simp
  have k0 : W.cell? ⟨w.heap.size, 0, none⟩ = some (.int .i64 ax) := by rw [← hW]; simp [go_sem]
  have k1 : W.cell? ⟨w.heap.size, 1, none⟩ = some (.int .i64 ay) := by rw [← hW]; simp [go_sem]
  have k2 : W.cell? ⟨w.heap.size + 1, 0, none⟩ = some (.int .i64 bx) := by rw [← hW]; simp [go_sem]
  have k3 : W.cell? ⟨w.heap.size + 1, 1, none⟩ = some (.int .i64 by') := by rw [← hW]; simp [go_sem]
  have k4 : W.cell? ⟨w.heap.size + 1 + 1, 0, none⟩ = some (.int .i64 cx) := by rw [← hW, World.cell?_alloc_past _ _ _ (by simp), World.cell?_alloc_at _ _ _ _ (by simp)]; rfl
  have k5 : W.cell? ⟨w.heap.size + 1 + 1, 1, none⟩ = some (.int .i64 cy) := by rw [← hW, World.cell?_alloc_past _ _ _ (by simp), World.cell?_alloc_at _ _ _ _ (by simp)]; rfl
  have k6 : W.cell? ⟨w.heap.size + 1 + 1 + 1, 0, none⟩ = some (.int .i64 dx) := by rw [← hW, World.cell?_alloc_at _ _ _ _ (by simp)]; rfl
  have k7 : W.cell? ⟨w.heap.size + 1 + 1 + 1, 1, none⟩ = some (.int .i64 dy) := by rw [← hW, World.cell?_alloc_at _ _ _ _ (by simp)]; rfl
  clear hW
  refine wp_region_grow (m := 12) (by kernel_rfl) (by kernel_rfl) (dsts := [some 13, some 14, some 15, some 16, some 17, some 18, some 19, some 20, some 21, some 9, some 10, some 11]) rfl (by kernel_rfl) rfl (fun i v s e w => match i with
    | 0 => v = pv dx dy | 1 => v = pv ax ay | 2 => v = pv (ax - dx) (ay - dy)
    | 3 => v = pv dx dy | 4 => v = pv bx by' | 5 => v = pv (bx - dx) (by' - dy)
    | 6 => v = pv dx dy | 7 => v = pv cx cy | 8 => v = pv (cx - dx) (cy - dy)
    | 9 => Fresh #[.int .i64 0, .int .i64 0] 97 v s e w
    | 10 => Fresh #[.int .i64 0, .int .i64 0] 97 v s e w
    | 11 => Fresh #[.int .i64 0, .int .i64 0] 97 v s e w
    | _ => True) ?_ ?_ ?_
  · intro i v s e w w' h hb
    rcases i with _|_|_|_|_|_|_|_|_|_|_|_|_ <;> first | exact h | exact Fresh.keep h hb | trivial
  · refine flS (flS (flS (flS (flS (flS (flS (flS (flS (flS (flS (flS fl0 ?_) ?_) ?_) ?_) ?_) ?_) ?_) ?_) ?_) ?_) ?_) ?_
    all_goals intro σ s e wx hbx hp
    · exact gives_load (T := 23) (x := .tmp 7) rfl rfl (run_load_pt _ _ _ dx dy ((hbx.cell (by simp; omega)).trans k6) ((hbx.cell (by simp; omega)).trans k7)) ⟨Below.refl _ _, rfl⟩
    · exact gives_load (T := 23) (x := .tmp 4) rfl rfl (run_load_pt _ _ _ ax ay ((hbx.cell (by simp; omega)).trans k0) ((hbx.cell (by simp; omega)).trans k1)) ⟨Below.refl _ _, rfl⟩
    · have h0 : σ 0 = pv dx dy := hp 0 rfl
      have h1 : σ 1 = pv ax ay := hp 1 rfl
      exact gives_call (f := 63) (args := [pv dx dy, pv ax ay]) rfl rfl (by show [σ 0, σ 1] = _; rw [h0, h1]) (by go_simp) ((stepFrom_any _ _ _ _ _ hd ha).mono fun e w' h => ⟨_, h.1, h.2, rfl⟩)
    · exact gives_load (T := 23) (x := .tmp 7) rfl rfl (run_load_pt _ _ _ dx dy ((hbx.cell (by simp; omega)).trans k6) ((hbx.cell (by simp; omega)).trans k7)) ⟨Below.refl _ _, rfl⟩
    · exact gives_load (T := 23) (x := .tmp 5) rfl rfl (run_load_pt _ _ _ bx by' ((hbx.cell (by simp; omega)).trans k2) ((hbx.cell (by simp; omega)).trans k3)) ⟨Below.refl _ _, rfl⟩
    · have h0 : σ 3 = pv dx dy := hp 3 rfl
      have h1 : σ 4 = pv bx by' := hp 4 rfl
      exact gives_call (f := 63) (args := [pv dx dy, pv bx by']) rfl rfl (by show [σ 3, σ 4] = _; rw [h0, h1]) (by go_simp) ((stepFrom_any _ _ _ _ _ hd hb).mono fun e w' h => ⟨_, h.1, h.2, rfl⟩)
    · exact gives_load (T := 23) (x := .tmp 7) rfl rfl (run_load_pt _ _ _ dx dy ((hbx.cell (by simp; omega)).trans k6) ((hbx.cell (by simp; omega)).trans k7)) ⟨Below.refl _ _, rfl⟩
    · exact gives_load (T := 23) (x := .tmp 6) rfl rfl (run_load_pt _ _ _ cx cy ((hbx.cell (by simp; omega)).trans k4) ((hbx.cell (by simp; omega)).trans k5)) ⟨Below.refl _ _, rfl⟩
    · have h0 : σ 6 = pv dx dy := hp 6 rfl
      have h1 : σ 7 = pv cx cy := hp 7 rfl
      exact gives_call (f := 63) (args := [pv dx dy, pv cx cy]) rfl rfl (by show [σ 6, σ 7] = _; rw [h0, h1]) (by go_simp) ((stepFrom_any _ _ _ _ _ hd hc).mono fun e w' h => ⟨_, h.1, h.2, rfl⟩)
    · exact gives_alloc (T := 97) rfl (run_alloc_step _) ⟨below1 _ _, Fresh.new _ _ _⟩
    · exact gives_alloc (T := 97) rfl (run_alloc_step _) ⟨below1 _ _, Fresh.new _ _ _⟩
    · exact gives_alloc (T := 97) rfl (run_alloc_step _) ⟨below1 _ _, Fresh.new _ _ _⟩
  · intro σ s e wx hbx hF hge hdis
    have e2 : σ 2 = pv (ax - dx) (ay - dy) := hF 2 (by omega)
    have e5 : σ 5 = pv (bx - dx) (by' - dy) := hF 5 (by omega)
    have e8 : σ 8 = pv (cx - dx) (cy - dy) := hF 8 (by omega)
    obtain ⟨b9, e9, s9, t9, z9, hh9⟩ : Fresh #[.int .i64 0, .int .i64 0] 97 (σ 9) (s 9) (e 9) wx := hF 9 (by omega)
    obtain ⟨b10, e10, s10, t10, z10, hh10⟩ : Fresh #[.int .i64 0, .int .i64 0] 97 (σ 10) (s 10) (e 10) wx := hF 10 (by omega)
    obtain ⟨b11, e11, s11, t11, z11, hh11⟩ : Fresh #[.int .i64 0, .int .i64 0] 97 (σ 11) (s 11) (e 11) wx := hF 11 (by omega)
    have g9 := hge 9 (by omega); have g10 := hge 10 (by omega); have g11 := hge 11 (by omega)
    have n1 : b9 ≠ b10 := by have := hdis 9 10 (by omega) (by omega) (by omega); omega
    have n2 : b9 ≠ b11 := by have := hdis 9 11 (by omega) (by omega) (by omega); omega
    have n3 : b10 ≠ b11 := by have := hdis 10 11 (by omega) (by omega) (by omega); omega
    refine ⟨?_⟩
    simp only [lay, Act.put, List.drop_succ_cons, List.drop_zero, List.setIfInBounds_toArray, List.set_cons_succ, List.set_cons_zero, e2, e5, e8, e9, e10, e11]
    clear hF hge hdis
    have q0 := cell_of_heap hh9; have q1 := cell_of_heap hh10; have q2 := cell_of_heap hh11
    have r0 := frozen_of_heap hh9; have r1 := frozen_of_heap hh10; have r2 := frozen_of_heap hh11
    go_wp2_with fail
    clear q0 q1 q2 r0 r1 r2
    generalize hs1 : ax - dx = s1 at *
    generalize hs2 : ay - dy = s2 at *
    generalize ht1 : bx - dx = t1 at *
    generalize ht2 : by' - dy = t2 at *
    generalize hu1 : cx - dx = u1 at *
    generalize hu2 : cy - dy = u2 at *
    generalize hV1 : (wx.setCell ⟨b9, 0, none⟩ (.int .i64 s1)).setCell ⟨b9, 1, none⟩ (.int .i64 s2) = V1
    generalize hV2 : (V1.setCell ⟨b10, 0, none⟩ (.int .i64 t1)).setCell ⟨b10, 1, none⟩ (.int .i64 t2) = V2
    generalize hV3 : (V2.setCell ⟨b11, 0, none⟩ (.int .i64 u1)).setCell ⟨b11, 1, none⟩ (.int .i64 u2) = V3
    obtain ⟨hbV, hc9, hc10, hc11, hvs⟩ := three_vars hbx (by omega) (by omega) (by omega) n1 n2 n3 hh9 hh10 hh11 hV1 hV2 hV3
    have q0 := cell_of_heap hc9 0; have q1 := cell_of_heap hc9 1
    have q2 := cell_of_heap hc10 0; have q3 := cell_of_heap hc10 1
    have q4 := cell_of_heap hc11 0; have q5 := cell_of_heap hc11 1
    simp only [List.getElem?_toArray, List.getElem?_cons_zero, List.getElem?_cons_succ] at q0 q1 q2 q3 q4 q5
    have j0 := (hbV.cell (p := ⟨w.heap.size, 0, none⟩) (by simp; omega)).trans k0
    have j1 := (hbV.cell (p := ⟨w.heap.size, 1, none⟩) (by simp; omega)).trans k1
    have j2 := (hbV.cell (p := ⟨w.heap.size + 1, 0, none⟩) (by simp; omega)).trans k2
    have j3 := (hbV.cell (p := ⟨w.heap.size + 1, 1, none⟩) (by simp; omega)).trans k3
    have j4 := (hbV.cell (p := ⟨w.heap.size + 1 + 1, 0, none⟩) (by simp; omega)).trans k4
    have j5 := (hbV.cell (p := ⟨w.heap.size + 1 + 1, 1, none⟩) (by simp; omega)).trans k5
    have y9 : b9 < V3.heap.size := by omega
    have y10 : b10 < V3.heap.size := by omega
    have y11 : b11 < V3.heap.size := by omega
    have y0 : w.heap.size < V3.heap.size := by have := hbx.size; omega
    have y1 : w.heap.size + 1 < V3.heap.size := by have := hbx.size; omega
    have y2 : w.heap.size + 1 + 1 < V3.heap.size := by have := hbx.size; omega
    have hb3 : Below w.heap.size w V3 := hb0.trans (hbV.mono hb0.size)
    have B1 : -16000 ≤ s1 ∧ s1 ≤ 16000 := by omega
    have B2 : -16000 ≤ s2 ∧ s2 ≤ 16000 := by omega
    have B3 : -16000 ≤ t1 ∧ t1 ≤ 16000 := by omega
    have B4 : -16000 ≤ t2 ∧ t2 ≤ 16000 := by omega
    have B5 : -16000 ≤ u1 ∧ u1 ≤ 16000 := by omega
    have B6 : -16000 ≤ u2 ∧ u2 ≤ 16000 := by omega
    have C1 := sqcr_bd s1 s2 t1 t2 u1 u2 B1 B2 B3 B4 B5 B6
    have C2 := sqcr_bd t1 t2 u1 u2 s1 s2 B3 B4 B5 B6 B1 B2
    have C3 := sqcr_bd u1 u2 s1 s2 t1 t2 B5 B6 B1 B2 B3 B4
    have res : (s1 * s1 + s2 * s2) * (t1 * u2 - t2 * u1) + (t1 * t1 + t2 * t2) * (u1 * s2 - u2 * s1) + (u1 * u1 + u2 * u2) * (s1 * t2 - s2 * t1) = circN ax ay bx by' cx cy dx dy := by
      unfold circN; rw [hs1, hs2, ht1, ht2, hu1, hu2]
    have Hres : Hid ((s1 * s1 + s2 * s2) * (t1 * u2 - t2 * u1) + (t1 * t1 + t2 * t2) * (u1 * s2 - u2 * s1) + (u1 * u1 + u2 * u2) * (s1 * t2 - s2 * t1) = circN ax ay bx by' cx cy dx dy) := res
    clear res hs1 hs2 ht1 ht2 hu1 hu2 hV1 hV2 hV3 hbV hc9 hc10 hc11 hh9 hh10 hh11 hvs k0 k1 k2 k3 k4 k5 k6 k7 hbx hb0 hsz e2 e5 e8 e9 e10 e11 g9 g10 g11 s9 s10 s11 t9 t10 t11 z9 z10 z11 n1 n2 n3 hd
    clear a1 a2 a3 a4 b1 b2 b3 b4 c1 c2 c3 c4 d1 d2 d3 d4
    go_region_held3 (fun w' => Below V3.heap.size V3 w' ∧ ∀ b o, b < V3.heap.size → w'.cell? ⟨b, o, none⟩ = V3.cell? ⟨b, o, none⟩) (first | exact keep0 _ | exact keep1 (by assumption) hb1)
      (first
        | (go_at_call 65; refine (square_any _ _ _ (by omega) (by omega) (by omega) (by omega)).mono ?_; rintro e w' ⟨rfl, hb1⟩)
        | (go_at_call 64; refine (cross_any _ _ _ _ _ (by omega) (by omega) (by omega) (by omega) (by omega) (by omega) (by omega) (by omega)).mono ?_; rintro e w' ⟨rfl, hb1⟩))
    obtain ⟨hbw, hcw⟩ := (by assumption : Below V3.heap.size V3 w' ∧ ∀ b o, b < V3.heap.size → w'.cell? ⟨b, o, none⟩ = V3.cell? ⟨b, o, none⟩)
    have G1 := sg_bd (sideN ax ay bx by' cx cy)
    have G2 := sg_bd ((s1 * s1 + s2 * s2) * (t1 * u2 - t2 * u1) + (t1 * t1 + t2 * t2) * (u1 * s2 - u2 * s1) + (u1 * u1 + u2 * u2) * (s1 * t2 - s2 * t1))
    have G3 := @mul_bd (sg (sideN ax ay bx by' cx cy)) (sg ((s1 * s1 + s2 * s2) * (t1 * u2 - t2 * u1) + (t1 * t1 + t2 * t2) * (u1 * s2 - u2 * s1) + (u1 * u1 + u2 * u2) * (s1 * t2 - s2 * t1))) 1 1 G1.1 G1.2 G2.1 G2.2
    go_wp2_with (first
        | (go_at_call 47; refine (pside_any _ _ _ _ _ _ _ ha hb hc).mono ?_; rintro e w2 ⟨rfl, hb2⟩)
        | (go_at_call 62; refine (sign_any _ _).mono ?_; rintro e w3 ⟨rfl, rfl⟩))
    go_ret
    exact ⟨ret_int (by rw [← Hres.out]), hb3.trans ((hbw.trans (hb2.mono hbw.size)).mono hb3.size)⟩

/-- the points of a list, by their places -/
def px (l : List (Int × Int)) (i : Nat) : Int := (l.getD i (0, 0)).1
def py (l : List (Int × Int)) (i : Nat) : Int := (l.getD i (0, 0)).2

def AllNear (l : List (Int × Int)) : Prop := ∀ i, i < l.length → Near (px l i) (py l i)

set_option maxHeartbeats 1000000 in
theorem ask1_any (B b off cap : Nat) (l : List (Int × Int)) (i j k : Nat) (w : World) (hi : i < l.length) (hj : j < l.length) (hk : k < l.length) (hl : l.length ≤ 1000000000)
    (hb : b < w.heap.size) (hB : B < w.heap.size) (hs : w.cell? ⟨B, 0, none⟩ = some (.slice (some ⟨b, off, none⟩) l.length cap)) (hp : PtsAt w b off l) (hn : AllNear l) :
    Calls Try.prog 46 #[.int .i64 i, .int .i64 j, .int .i64 k, .pointer (some ⟨B, 0, none⟩)] w fun e w' =>
      e = .returned (.int .i64 (sg (sideN (px l i) (py l i) (px l j) (py l j) (px l k) (py l k)))) ∧ Below w.heap.size w w' := by
  have i1 : (0 : Int) ≤ (i : Int) := by omega
  have i2 : (i : Int) < (l.length : Int) := by omega
  have j1 : (0 : Int) ≤ (j : Int) := by omega
  have j2 : (j : Int) < (l.length : Int) := by omega
  have k1 : (0 : Int) ≤ (k : Int) := by omega
  have k2 : (k : Int) < (l.length : Int) := by omega
  obtain ⟨c0, c1⟩ := hp i hi
  obtain ⟨c2, c3⟩ := hp j hj
  obtain ⟨c4, c5⟩ := hp k hk
  have ni := hn i hi; have nj := hn j hj; have nk := hn k hk
  change w.cell? _ = some (.int .i64 (px l i)) at c0
  change w.cell? _ = some (.int .i64 (py l i)) at c1
  change w.cell? _ = some (.int .i64 (px l j)) at c2
  change w.cell? _ = some (.int .i64 (py l j)) at c3
  change w.cell? _ = some (.int .i64 (px l k)) at c4
  change w.cell? _ = some (.int .i64 (py l k)) at c5
  generalize px l i = xi at *; generalize py l i = yi at *
  generalize px l j = xj at *; generalize py l j = yj at *
  generalize px l k = xk at *; generalize py l k = yk at *
  clear hp hn
  go_enter Try.func46, Try.ntmps46
  go_wp2_with fail
  go_region_held3 (fun w' => Below w.heap.size w w' ∧ ∀ b o, b < w.heap.size → w'.cell? ⟨b, o, none⟩ = w.cell? ⟨b, o, none⟩) (first | exact keep0 _ | exact keep1 (by assumption) hb1)
    (first
      | (go_at_call 47; refine (pside_any _ _ _ _ _ _ _ ni nj nk).mono ?_; rintro e w' ⟨rfl, hb1⟩))
  go_wp2
  go_ret
  exact ⟨rfl, (by assumption : Below w.heap.size w w' ∧ ∀ b o, b < w.heap.size → w'.cell? ⟨b, o, none⟩ = w.cell? ⟨b, o, none⟩).1⟩

set_option maxHeartbeats 1000000 in
theorem ask2_any (B b off cap : Nat) (l : List (Int × Int)) (i j k m : Nat) (w : World) (hi : i < l.length) (hj : j < l.length) (hk : k < l.length) (hm : m < l.length) (hl : l.length ≤ 1000000000)
    (hb : b < w.heap.size) (hB : B < w.heap.size) (hs : w.cell? ⟨B, 0, none⟩ = some (.slice (some ⟨b, off, none⟩) l.length cap)) (hp : PtsAt w b off l) (hn : AllNear l) :
    Calls Try.prog 48 #[.int .i64 i, .int .i64 j, .int .i64 k, .int .i64 m, .pointer (some ⟨B, 0, none⟩)] w fun e w' =>
      e = .returned (.int .i64 (sg (sideN (px l i) (py l i) (px l j) (py l j) (px l k) (py l k)) * sg (circN (px l i) (py l i) (px l j) (py l j) (px l k) (py l k) (px l m) (py l m)))) ∧ Below w.heap.size w w' := by
  have i1 : (0 : Int) ≤ (i : Int) := by omega
  have i2 : (i : Int) < (l.length : Int) := by omega
  have j1 : (0 : Int) ≤ (j : Int) := by omega
  have j2 : (j : Int) < (l.length : Int) := by omega
  have k1 : (0 : Int) ≤ (k : Int) := by omega
  have k2 : (k : Int) < (l.length : Int) := by omega
  have m1 : (0 : Int) ≤ (m : Int) := by omega
  have m2 : (m : Int) < (l.length : Int) := by omega
  obtain ⟨c0, c1⟩ := hp i hi
  obtain ⟨c2, c3⟩ := hp j hj
  obtain ⟨c4, c5⟩ := hp k hk
  obtain ⟨c6, c7⟩ := hp m hm
  have ni := hn i hi; have nj := hn j hj; have nk := hn k hk; have nm := hn m hm
  change w.cell? _ = some (.int .i64 (px l i)) at c0
  change w.cell? _ = some (.int .i64 (py l i)) at c1
  change w.cell? _ = some (.int .i64 (px l j)) at c2
  change w.cell? _ = some (.int .i64 (py l j)) at c3
  change w.cell? _ = some (.int .i64 (px l k)) at c4
  change w.cell? _ = some (.int .i64 (py l k)) at c5
  change w.cell? _ = some (.int .i64 (px l m)) at c6
  change w.cell? _ = some (.int .i64 (py l m)) at c7
  generalize px l i = xi at *; generalize py l i = yi at *
  generalize px l j = xj at *; generalize py l j = yj at *
  generalize px l k = xk at *; generalize py l k = yk at *
  generalize px l m = xm at *; generalize py l m = ym at *
  clear hp hn
  go_enter Try.func48, Try.ntmps48
  go_wp2_with fail
  go_region_held3 (fun w' => Below w.heap.size w w' ∧ ∀ b o, b < w.heap.size → w'.cell? ⟨b, o, none⟩ = w.cell? ⟨b, o, none⟩) (first | exact keep0 _ | exact keep1 (by assumption) hb1)
    (first
      | (go_at_call 49; refine (pcircle_any _ _ _ _ _ _ _ _ _ ni nj nk nm).mono ?_; rintro e w' ⟨rfl, hb1⟩))
  go_wp2
  go_ret
  exact ⟨rfl, (by assumption : Below w.heap.size w w' ∧ ∀ b o, b < w.heap.size → w'.cell? ⟨b, o, none⟩ = w.cell? ⟨b, o, none⟩).1⟩

end Go.Proofs.Ytgpapegpdfonpaa
