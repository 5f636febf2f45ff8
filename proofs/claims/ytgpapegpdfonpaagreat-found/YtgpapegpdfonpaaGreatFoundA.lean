/-
  Net.edge of the statement, where its answer is yes.
-/
import Derived.Test.YtgpapegpdfonpaaGreatPtsR
import Derived.Test.YtgpapegpdfonpaaGreatSowG
import Derived.BigQuiet
import Derived.BigRegion
import Derived.Deep.CutRange
import Derived.Deep.DeepCutAuto
namespace Go.Proofs.YtgpapegpdfonpaaGreat
set_option linter.unusedVariables false
set_option linter.unusedSimpArgs false
open Go.RowKit
attribute [local go_sem ↓] Go.wp_at_zero Go.wp_at_succ

/-! ### a region whose values are known ahead -/
structure ValG (V : World) (vals : Nat → Value) (L : Nat → Bool) (σ : Nat → Value) (w : World) : Prop where
  val : ∀ i, L i = true → σ i = vals i
  bel : Below V.heap.size V w
theorem ValG.step {V w w' : World} {vals : Nat → Value} {L : Nat → Bool} {σ : Nat → Value} {i : Nat} (h : ValG V vals L σ w) (hb : Below V.heap.size V w') : ValG V vals (fun j => if j = i then true else L j) (fun j => if j = i then vals i else σ j) w' :=
  ⟨fun j hl => by
    by_cases e : j = i
    · subst e; simp
    · simp only [if_neg e] at hl ⊢; exact h.val j hl, hb⟩
theorem runs {a : Bool} {A B : Prop} (h : a = true) (x : A) : (a = true → A) ∧ (a = false → B) := ⟨fun _ => x, fun h' => by rw [h] at h'; cases h'⟩
theorem gives_pickF {P : Program} {o : Oper} {ρ : Operand → Value} {w : World} {R : Value → World → Prop} {c a b : Operand} {v : Value} (hop : o.op = .pick c a b) (hc : ρ c = .bool false) (hb : ρ b = v) (hR : R v w) : Gives P o ρ w R := by
  refine Gives.value v w ?_ hR
  simp only [execOp, hop, hc, hb]
  rfl
theorem run_ltF (w : World) (x y : Operand) (a b : Int) (h : decide (a < b) = false) : Sem.run Tryz.prog (do eqGuard .lss 3 x y (.int .i64 a) (.int .i64 b); binOp .lss 3 (.int .i64 a) (.int .i64 b)) w = .ok (.bool false) w := by
  go_simp
theorem run_geF (w : World) (x y : Operand) (a b : Int) (h : decide (b ≤ a) = false) : Sem.run Tryz.prog (do eqGuard .geq 3 x y (.int .i64 a) (.int .i64 b); binOp .geq 3 (.int .i64 a) (.int .i64 b)) w = .ok (.bool false) w := by
  go_simp
theorem run_neF (w : World) (x y : Operand) (a : Int) : Sem.run Tryz.prog (do eqGuard .neq 3 x y (.int .i64 a) (.int .i64 a); binOp .neq 3 (.int .i64 a) (.int .i64 a)) w = .ok (.bool false) w := by
  have h : (a == a) = true := by simp
  go_simp
theorem run_fieldW (w : World) (B : Nat) : (Instr.fieldAt 35 (.pointer (some ⟨B, 0, none⟩)) 1).run Tryz.prog w = .ok (.pointer (some ⟨B, 1, none⟩)) w := by go_simp
theorem gives_asgF {P : Program} {o : Oper} {ρ : Operand → Value} {w : World} {R : Value → World → Prop} {x : Operand} {v : Value} (hop : o.op = .assign x) (hx : ρ x = v) (hR : R v w) : Gives P o ρ w R := by
  refine Gives.value v w ?_ hR
  simp only [execOp, hop, hx]
  rfl
theorem skips {a : Bool} {A B : Prop} (h : a = false) (x : B) : (a = true → A) ∧ (a = false → B) := ⟨(fun h' => by rw [h] at h'; cases h'), fun _ => x⟩
theorem gives_pickT {P : Program} {o : Oper} {ρ : Operand → Value} {w : World} {R : Value → World → Prop} {c a b : Operand} {v : Value} (hop : o.op = .pick c a b) (hc : ρ c = .bool true) (ha : ρ a = v) (hR : R v w) : Gives P o ρ w R := by
  refine Gives.value v w ?_ hR
  simp only [execOp, hop, hc, ha]
  rfl
theorem run_fieldN1 (w : World) (B : Nat) : (Instr.fieldAt 28 (.pointer (some ⟨B, 0, none⟩)) 1).run Tryz.prog w = .ok (.pointer (some ⟨B, 1, none⟩)) w := by go_simp
theorem idx_arrW0 (w : World) (g o : Nat) : (Instr.indexAt 33 (.pointer (some ⟨g, o, none⟩)) (.int .i64 0)).run Tryz.prog w = .ok (.pointer (some ⟨g, o, none⟩)) w := by go_simp
theorem idx_arrW1 (w : World) (g o : Nat) : (Instr.indexAt 33 (.pointer (some ⟨g, o, none⟩)) (.int .i64 1)).run Tryz.prog w = .ok (.pointer (some ⟨g, o + 1, none⟩)) w := by go_simp
theorem idx_arrW2 (w : World) (g o : Nat) : (Instr.indexAt 33 (.pointer (some ⟨g, o, none⟩)) (.int .i64 2)).run Tryz.prog w = .ok (.pointer (some ⟨g, o + 2, none⟩)) w := by go_simp
theorem run_store_ptF (w : World) (b : Nat) (c0 c1 : Value) (x y : Int) (h : w.heap[b]? = some (.cells #[c0, c1] 32 (0, 0))) :
    (Instr.storeAt 32 (.pointer (some ⟨b, 0, none⟩)) (pv x y)).run Tryz.prog w = .ok () ((w.setCell ⟨b, 0, none⟩ (.int .i64 x)).setCell ⟨b, 1, none⟩ (.int .i64 y)) := by
  have q0 : w.cell? ⟨b, 0, none⟩ = some c0 := cell_of_heap h 0
  have q1 : w.cell? ⟨b, 1, none⟩ = some c1 := cell_of_heap h 1
  have f0 := frozen_of_heap h 0
  have f1 := frozen_of_heap h 1
  go_simp
def valsE (X g n c B B1 : Nat) (x y : Nat) (n0 n1 ax ay bx by2 px py : Int) : Nat → Value
  | 0 => .int .i64 (x : Int)
  | 1 => .bool false
  | 2 => .bool false
  | 3 => .int .i64 (y : Int)
  | 4 => .bool false
  | 5 => .bool false
  | 6 => .bool false
  | 7 => .pointer (some ⟨B, 1, none⟩)
  | 8 => .pointer (some ⟨B, 1, none⟩)
  | 9 => .int .i64 n0
  | 10 => .pointer (some ⟨B, 1, none⟩)
  | 11 => .pointer (some ⟨B, 2, none⟩)
  | 12 => .int .i64 n1
  | 13 => .bool false
  | 14 => .bool false
  | 15 => .bool false
  | 16 => .pointer (some ⟨B, 1, none⟩)
  | 17 => .pointer (some ⟨B, 3, none⟩)
  | 18 => .int .i64 (-1)
  | 19 => .bool false
  | 20 => .bool false
  | 21 => .bool false
  | 22 => .pointer (some ⟨X, 0, none⟩)
  | 23 => .pointer (some ⟨X, 0, none⟩)
  | 24 => .pointer (some ⟨X, 1, none⟩)
  | 25 => .slice (some ⟨g, 0, none⟩) n c
  | 26 => .int .i64 (x : Int)
  | 27 => .pointer (some ⟨g, x * 2, none⟩)
  | 28 => .agg #[.int .i64 ax, .int .i64 ay]
  | 29 => .pointer (some ⟨X, 0, none⟩)
  | 30 => .pointer (some ⟨X, 0, none⟩)
  | 31 => .pointer (some ⟨X, 1, none⟩)
  | 32 => .slice (some ⟨g, 0, none⟩) n c
  | 33 => .int .i64 (y : Int)
  | 34 => .pointer (some ⟨g, y * 2, none⟩)
  | 35 => .agg #[.int .i64 bx, .int .i64 by2]
  | 36 => .agg #[.int .i64 px, .int .i64 py]
  | 37 => .int .i64 0
  | 38 => .bool false
  | 39 => .bool false
  | _ => undef
def valsE1 (X B x y : Nat) (n0 n1 : Int) : Nat → Value
  | 0 => .pointer (some ⟨X, 0, none⟩)
  | 1 => .pointer (some ⟨B, 1, none⟩)
  | 2 => .pointer (some ⟨B, 1, none⟩)
  | 3 => .int .i64 n0
  | 4 => .int .i64 (x : Int)
  | 5 => .pointer (some ⟨X, 0, none⟩)
  | 6 => .pointer (some ⟨B, 1, none⟩)
  | 7 => .pointer (some ⟨B, 2, none⟩)
  | 8 => .int .i64 n1
  | 9 => .int .i64 (y : Int)
  | 10 => .int .i64 (x : Int)
  | 11 => .int .i64 (y : Int)
  | _ => undef
def kdE (X g n c x y : Nat) (ax ay bx by2 : Int) : Nat → Knd
  | 0 => .val (.pointer (some ⟨X, 0, none⟩))
  | 1 => .val (.pointer (some ⟨X, 0, none⟩))
  | 2 => .val (.pointer (some ⟨X, 1, none⟩))
  | 3 => .val (.slice (some ⟨g, 0, none⟩) n c)
  | 4 => .val (.int .i64 (x : Int))
  | 5 => .val (.pointer (some ⟨g, x * 2, none⟩))
  | 6 => .val (.agg #[.int .i64 ax, .int .i64 ay])
  | 7 => .val (.pointer (some ⟨X, 0, none⟩))
  | 8 => .val (.pointer (some ⟨X, 0, none⟩))
  | 9 => .val (.pointer (some ⟨X, 1, none⟩))
  | 10 => .val (.slice (some ⟨g, 0, none⟩) n c)
  | 11 => .val (.int .i64 (y : Int))
  | 12 => .val (.pointer (some ⟨g, y * 2, none⟩))
  | 13 => .val (.agg #[.int .i64 bx, .int .i64 by2])
  | 14 => .fresh
  | 15 => .fresh
  | 16 => .put 14 (.int .i64 ax) (.int .i64 ay)
  | 17 => .put 15 (.int .i64 bx) (.int .i64 by2)
  | _ => .val undef
theorem kdE_put (X g n c x y : Nat) (ax ay bx by2 : Int) (q a : Nat) (u v : Value) (h : kdE X g n c x y ax ay bx by2 q = .put a u v) : q = a + 2 := by
  unfold kdE at h
  split at h <;> simp at h <;> omega

set_option maxRecDepth 100000 in
set_option maxHeartbeats 8000000 in
theorem edge_core (X g n c : Nat) (px py k n0 n1 ax ay bx by2 : Int) (x y : Nat) (w : World) (hX : X < w.heap.size) (hg : g < w.heap.size) (hx : x < n) (hy : y < n)
    (c1 : w.cell? ⟨X, 1, none⟩ = some (.slice (some ⟨g, 0, none⟩) n c)) (d0 : w.cell? ⟨g, x * 2, none⟩ = some (.int .i64 ax)) (d1 : w.cell? ⟨g, x * 2 + 1, none⟩ = some (.int .i64 ay)) (d2 : w.cell? ⟨g, y * 2, none⟩ = some (.int .i64 bx)) (d3 : w.cell? ⟨g, y * 2 + 1, none⟩ = some (.int .i64 by2))
    (nA : Near ax ay) (nB : Near bx by2) (hpn : Near px py) (hlt : n0 < n1) (s1 : sideN ax ay bx by2 px py = 0) (s2 : (px - ax) * (px - bx) + (py - ay) * (py - by2) < 0)
    (at0 : ∀ W, Below w.heap.size w W → Calls Tryz.prog 16 #[.pointer (some ⟨X, 0, none⟩), .int .i64 n0] W fun e w' => e = .returned (.int .i64 (x : Int)) ∧ Below W.heap.size W w')
    (at1 : ∀ W, Below w.heap.size w W → Calls Tryz.prog 16 #[.pointer (some ⟨X, 0, none⟩), .int .i64 n1] W fun e w' => e = .returned (.int .i64 (y : Int)) ∧ Below W.heap.size W w') :
    Calls Tryz.prog 20 #[.pointer (some ⟨X, 0, none⟩), .agg #[.int .i64 k, .int .i64 n0, .int .i64 n1, .int .i64 (-1)], .agg #[.int .i64 px, .int .i64 py]] w fun e w' => e = .returned (.bool true) ∧ Below w.heap.size w w' := by
  have SC := fun W => kside_any _ _ _ _ _ _ W nA nB hpn
  rw [s1] at SC
  go_enter Tryz.func20, Tryz.ntmps20
  go_wp2_with fail
  generalize hW : ((w.alloc (.cells #[.int .i64 k, .int .i64 n0, .int .i64 n1, .int .i64 (-1)] 35)).alloc (.cells #[.int .i64 px, .int .i64 py] 32)) = W
  have hb0 : Below w.heap.size w W := by rw [← hW]; exact below2 _ _ _
  have hsz : W.heap.size = w.heap.size + 1 + 1 := by rw [← hW]; simp
  have k1 : W.cell? ⟨w.heap.size, 1, none⟩ = some (.int .i64 n0) := by rw [← hW]; simp [go_sem]
  have k2 : W.cell? ⟨w.heap.size, 2, none⟩ = some (.int .i64 n1) := by rw [← hW]; simp [go_sem]
  have k3 : W.cell? ⟨w.heap.size, 3, none⟩ = some (.int .i64 (-1)) := by rw [← hW]; simp [go_sem]
  have k4 : W.cell? ⟨w.heap.size + 1, 0, none⟩ = some (.int .i64 px) := by rw [← hW]; simp [go_sem]
  have k5 : W.cell? ⟨w.heap.size + 1, 1, none⟩ = some (.int .i64 py) := by rw [← hW]; simp [go_sem]
  have x1 := (hb0.cell (p := ⟨X, 1, none⟩) hX).trans c1
  replace d0 := (hb0.cell (p := ⟨g, x * 2, none⟩) hg).trans d0
  replace d1 := (hb0.cell (p := ⟨g, x * 2 + 1, none⟩) hg).trans d1
  replace d2 := (hb0.cell (p := ⟨g, y * 2, none⟩) hg).trans d2
  replace d3 := (hb0.cell (p := ⟨g, y * 2 + 1, none⟩) hg).trans d3
  have gW : g < W.heap.size := by omega
  have XW : X < W.heap.size := by omega
  have BW : w.heap.size < W.heap.size := by omega
  have BW1 : w.heap.size + 1 < W.heap.size := by omega
  have f1 : decide ((x : Int) < 0) = false := decide_eq_false (by omega)
  have f2 : decide ((y : Int) < 0) = false := decide_eq_false (by omega)
  have f3 : decide (n1 ≤ n0) = false := decide_eq_false (by omega)
  clear hW c1 hX hg
  go_cut [7, 8] (fun s7 s8 wx => s7 = .int .i64 (x : Int) ∧ s8 = .int .i64 (y : Int) ∧ Below W.heap.size W wx)
  case first =>
    as_aux_lemma =>
    refine wp_region_invG (m := 12) (by kernel_rfl) (by kernel_rfl) (by kernel_rfl) (dsts := [some 11, some 12, some 13, some 14, some 15, some 16, some 17, some 18, some 19, some 20, some 7, some 8]) rfl (by kernel_rfl) (l := []) rfl (ValG W (valsE1 X w.heap.size x y n0 n1)) ⟨(fun _ h => by cases h), (Below.refl _ _).drew⟩ ?_ ?_
    · refine (flS (flS (flS (flS (flS (flS (flS (flS (flS (flS (flS (flS fl0 ?_) ?_) ?_) ?_) ?_) ?_) ?_) ?_) ?_) ?_) ?_) ?_)
      all_goals intro Ls σ wx hS hp hdn hun
      · exact runs rfl (gives_move (x := .tmp 0) rfl rfl (hS.step (i := 0) hS.bel)).toS
      · exact runs rfl (gives_field (T := 35) (x := .tmp 4) rfl rfl (run_fieldW _ _) (hS.step (i := 1) hS.bel)).toS
      · exact runs rfl (gives_index (T := 33) (x := .tmp 12) (y := .const (.int .i64 0)) rfl (show σ 1 = _ from hS.val 1 (hp 1 rfl)) rfl (idx_arrW0 _ _ _) (hS.step (i := 2) hS.bel)).toS
      · exact runs rfl (gives_load (T := 3) (x := .tmp 13) rfl (show σ 2 = _ from hS.val 2 (hp 2 rfl)) (run_load_int _ _ _ _ ((hS.bel.cell (p := ⟨w.heap.size, 1, none⟩) BW).trans k1)) (hS.step (i := 3) hS.bel)).toS
      · have e0 : σ 0 = _ := hS.val 0 (hp 0 rfl)
        have e3 : σ 3 = _ := hS.val 3 (hp 3 rfl)
        exact runs rfl (gives_call (f := 16) (args := [.pointer (some ⟨X, 0, none⟩), .int .i64 n0]) rfl rfl (by show [σ 0, σ 3] = _; rw [e0, e3]; rfl) (by go_simp) ((at0 wx (hb0.trans (hS.bel.mono hb0.size))).mono fun e w' h => ⟨_, h.1, hS.step (i := 4) (hS.bel.trans (h.2.mono hS.bel.size))⟩)).toS
      · exact runs rfl (gives_move (x := .tmp 0) rfl rfl (hS.step (i := 5) hS.bel)).toS
      · exact runs rfl (gives_field (T := 35) (x := .tmp 4) rfl rfl (run_fieldW _ _) (hS.step (i := 6) hS.bel)).toS
      · exact runs rfl (gives_index (T := 33) (x := .tmp 17) (y := .const (.int .i64 1)) rfl (show σ 6 = _ from hS.val 6 (hp 6 rfl)) rfl (idx_arrW1 _ _ _) (hS.step (i := 7) hS.bel)).toS
      · exact runs rfl (gives_load (T := 3) (x := .tmp 18) rfl (show σ 7 = _ from hS.val 7 (hp 7 rfl)) (run_load_int _ _ _ _ ((hS.bel.cell (p := ⟨w.heap.size, 2, none⟩) BW).trans k2)) (hS.step (i := 8) hS.bel)).toS
      · have e5 : σ 5 = _ := hS.val 5 (hp 5 rfl)
        have e8 : σ 8 = _ := hS.val 8 (hp 8 rfl)
        exact runs rfl (gives_call (f := 16) (args := [.pointer (some ⟨X, 0, none⟩), .int .i64 n1]) rfl rfl (by show [σ 5, σ 8] = _; rw [e5, e8]; rfl) (by go_simp) ((at1 wx (hb0.trans (hS.bel.mono hb0.size))).mono fun e w' h => ⟨_, h.1, hS.step (i := 9) (hS.bel.trans (h.2.mono hS.bel.size))⟩)).toS
      · exact runs rfl (gives_asgF (x := .tmp 15) rfl (show σ 4 = _ from hS.val 4 (hp 4 rfl)) (hS.step (i := 10) hS.bel)).toS
      · exact runs rfl (gives_asgF (x := .tmp 20) rfl (show σ 9 = _ from hS.val 9 (hp 9 rfl)) (hS.step (i := 11) hS.bel)).toS
    · intro Ls σ wx hS hall
      have e10 : σ 10 = .int .i64 (x : Int) := hS.val 10 (hall 10 (by omega))
      have e11 : σ 11 = .int .i64 (y : Int) := hS.val 11 (hall 11 (by omega))
      have hbx := hS.bel
      clear hS
      refine ⟨?_⟩
      simp only [lay, Act.put, List.drop_succ_cons, List.drop_zero, List.setIfInBounds_toArray, List.set_cons_succ, List.set_cons_zero, e10, e11]
      go_wp2_with fail
      go_meet
      exact ⟨rfl, rfl, hbx⟩
  case rest =>
  as_aux_lemma =>
  obtain ⟨rfl, rfl, hbq⟩ := hcut
  have hb1 : Below w.heap.size w wc := hb0.trans (hbq.mono hb0.size)
  replace d0 := (hbq.cell (p := ⟨g, x * 2, none⟩) gW).trans d0
  replace d1 := (hbq.cell (p := ⟨g, x * 2 + 1, none⟩) gW).trans d1
  replace d2 := (hbq.cell (p := ⟨g, y * 2, none⟩) gW).trans d2
  replace d3 := (hbq.cell (p := ⟨g, y * 2 + 1, none⟩) gW).trans d3
  replace k1 := (hbq.cell (p := ⟨w.heap.size, 1, none⟩) BW).trans k1
  replace k2 := (hbq.cell (p := ⟨w.heap.size, 2, none⟩) BW).trans k2
  replace k3 := (hbq.cell (p := ⟨w.heap.size, 3, none⟩) BW).trans k3
  replace k4 := (hbq.cell (p := ⟨w.heap.size + 1, 0, none⟩) BW1).trans k4
  replace k5 := (hbq.cell (p := ⟨w.heap.size + 1, 1, none⟩) BW1).trans k5
  replace x1 := (hbq.cell (p := ⟨X, 1, none⟩) XW).trans x1
  replace gW := Nat.lt_of_lt_of_le gW hbq.size
  replace XW := Nat.lt_of_lt_of_le XW hbq.size
  replace BW := Nat.lt_of_lt_of_le BW hbq.size
  replace BW1 := Nat.lt_of_lt_of_le BW1 hbq.size
  clear hb0 hsz at0 at1 hbq
  generalize wc = V at *
  generalize hB : w.heap.size = B at *
  have HB : Hid (w.heap.size = B) := hB
  clear hB
  generalize B + 1 = B1 at *
  go_wp2_with fail
  go_cut [60] (fun s60 wx => s60 = .bool false ∧ Below V.heap.size V wx)
  case first =>
    as_aux_lemma =>
    refine wp_region_invG (m := 40) (by kernel_rfl) (by kernel_rfl) (by kernel_rfl) (dsts := [some 21, some 22, some 23, some 24, some 25, some 26, some 27, some 28, some 29, some 30, some 31, some 32, some 33, some 34, some 35, some 36, some 37, some 38, some 39, some 40, some 41, some 42, some 43, some 44, some 45, some 46, some 47, some 48, some 49, some 50, some 51, some 52, some 53, some 54, some 55, some 56, some 57, some 58, some 59, some 60]) rfl (by kernel_rfl) (l := []) rfl (ValG V (valsE X g n c B B1 x y n0 n1 ax ay bx by2 px py)) ⟨(fun _ h => by cases h), (Below.refl _ _).drew⟩ ?_ ?_
    · refine (flS (flS (flS (flS (flS (flS (flS (flS (flS (flS (flS (flS (flS (flS (flS (flS (flS (flS (flS (flS (flS (flS (flS (flS (flS (flS (flS (flS (flS (flS (flS (flS (flS (flS (flS (flS (flS (flS (flS (flS fl0 ?_) ?_) ?_) ?_) ?_) ?_) ?_) ?_) ?_) ?_) ?_) ?_) ?_) ?_) ?_) ?_) ?_) ?_) ?_) ?_) ?_) ?_) ?_) ?_) ?_) ?_) ?_) ?_) ?_) ?_) ?_) ?_) ?_) ?_) ?_) ?_) ?_) ?_) ?_) ?_)
      all_goals intro Ls σ wx hS hp hdn hun
      · exact runs rfl (gives_move (x := .tmp 7) rfl rfl (hS.step (i := 0) hS.bel)).toS
      · exact runs rfl (gives_bin (b := .lss) (x := .tmp 21) (y := .const (.int .i64 0)) rfl (show σ 0 = _ from hS.val 0 (hp 0 rfl)) rfl (run_ltF _ _ _ _ _ f1) (hS.step (i := 1) hS.bel)).toS
      · exact runs rfl (gives_move (x := .tmp 22) rfl (show σ 1 = _ from hS.val 1 (hp 1 rfl)) (hS.step (i := 2) hS.bel)).toS
      · exact runs (by show wantV (σ 2) false = true; rw [hS.val 2 (hp 2 rfl)]; rfl) (gives_move (x := .tmp 8) rfl rfl (hS.step (i := 3) hS.bel)).toS
      · exact runs (by show wantV (σ 2) false = true; rw [hS.val 2 (hp 2 rfl)]; rfl) (gives_bin (b := .lss) (x := .tmp 24) (y := .const (.int .i64 0)) rfl (show σ 3 = _ from hS.val 3 (hp 3 rfl)) rfl (run_ltF _ _ _ _ _ f2) (hS.step (i := 4) hS.bel)).toS
      · exact runs rfl (gives_pickF (c := .tmp 23) (b := .tmp 25) rfl (show σ 2 = _ from hS.val 2 (hp 2 rfl)) (show σ 4 = _ from hS.val 4 (hp 4 rfl)) (hS.step (i := 5) hS.bel)).toS
      · exact runs rfl (gives_move (x := .tmp 26) rfl (show σ 5 = _ from hS.val 5 (hp 5 rfl)) (hS.step (i := 6) hS.bel)).toS
      · exact runs (by show wantV (σ 6) false = true; rw [hS.val 6 (hp 6 rfl)]; rfl) (gives_field (T := 35) (x := .tmp 4) rfl rfl (run_fieldW _ _) (hS.step (i := 7) hS.bel)).toS
      · exact runs (by show wantV (σ 6) false = true; rw [hS.val 6 (hp 6 rfl)]; rfl) (gives_index (T := 33) (x := .tmp 28) (y := .const (.int .i64 0)) rfl (show σ 7 = _ from hS.val 7 (hp 7 rfl)) rfl (idx_arrW0 _ _ _) (hS.step (i := 8) hS.bel)).toS
      · exact runs (by show wantV (σ 6) false = true; rw [hS.val 6 (hp 6 rfl)]; rfl) (gives_load (T := 3) (x := .tmp 29) rfl (show σ 8 = _ from hS.val 8 (hp 8 rfl)) (run_load_int _ _ _ _ ((hS.bel.cell (p := ⟨B, 1, none⟩) BW).trans k1)) (hS.step (i := 9) hS.bel)).toS
      · exact runs (by show wantV (σ 6) false = true; rw [hS.val 6 (hp 6 rfl)]; rfl) (gives_field (T := 35) (x := .tmp 4) rfl rfl (run_fieldW _ _) (hS.step (i := 10) hS.bel)).toS
      · exact runs (by show wantV (σ 6) false = true; rw [hS.val 6 (hp 6 rfl)]; rfl) (gives_index (T := 33) (x := .tmp 31) (y := .const (.int .i64 1)) rfl (show σ 10 = _ from hS.val 10 (hp 10 rfl)) rfl (idx_arrW1 _ _ _) (hS.step (i := 11) hS.bel)).toS
      · exact runs (by show wantV (σ 6) false = true; rw [hS.val 6 (hp 6 rfl)]; rfl) (gives_load (T := 3) (x := .tmp 32) rfl (show σ 11 = _ from hS.val 11 (hp 11 rfl)) (run_load_int _ _ _ _ ((hS.bel.cell (p := ⟨B, 2, none⟩) BW).trans k2)) (hS.step (i := 12) hS.bel)).toS
      · exact runs (by show wantV (σ 6) false = true; rw [hS.val 6 (hp 6 rfl)]; rfl) (gives_bin (b := .geq) (x := .tmp 30) (y := .tmp 33) rfl (show σ 9 = _ from hS.val 9 (hp 9 rfl)) (show σ 12 = _ from hS.val 12 (hp 12 rfl)) (run_geF _ _ _ _ _ f3) (hS.step (i := 13) hS.bel)).toS
      · exact runs rfl (gives_pickF (c := .tmp 27) (b := .tmp 34) rfl (show σ 6 = _ from hS.val 6 (hp 6 rfl)) (show σ 13 = _ from hS.val 13 (hp 13 rfl)) (hS.step (i := 14) hS.bel)).toS
      · exact runs rfl (gives_move (x := .tmp 35) rfl (show σ 14 = _ from hS.val 14 (hp 14 rfl)) (hS.step (i := 15) hS.bel)).toS
      · exact runs (by show wantV (σ 15) false = true; rw [hS.val 15 (hp 15 rfl)]; rfl) (gives_field (T := 35) (x := .tmp 4) rfl rfl (run_fieldW _ _) (hS.step (i := 16) hS.bel)).toS
      · exact runs (by show wantV (σ 15) false = true; rw [hS.val 15 (hp 15 rfl)]; rfl) (gives_index (T := 33) (x := .tmp 37) (y := .const (.int .i64 2)) rfl (show σ 16 = _ from hS.val 16 (hp 16 rfl)) rfl (idx_arrW2 _ _ _) (hS.step (i := 17) hS.bel)).toS
      · exact runs (by show wantV (σ 15) false = true; rw [hS.val 15 (hp 15 rfl)]; rfl) (gives_load (T := 3) (x := .tmp 38) rfl (show σ 17 = _ from hS.val 17 (hp 17 rfl)) (run_load_int _ _ _ _ ((hS.bel.cell (p := ⟨B, 3, none⟩) BW).trans k3)) (hS.step (i := 18) hS.bel)).toS
      · exact runs (by show wantV (σ 15) false = true; rw [hS.val 15 (hp 15 rfl)]; rfl) (gives_bin (b := .neq) (x := .tmp 39) (y := .const (.int .i64 (-1))) rfl (show σ 18 = _ from hS.val 18 (hp 18 rfl)) rfl (run_neF _ _ _ _) (hS.step (i := 19) hS.bel)).toS
      · exact runs rfl (gives_pickF (c := .tmp 36) (b := .tmp 40) rfl (show σ 15 = _ from hS.val 15 (hp 15 rfl)) (show σ 19 = _ from hS.val 19 (hp 19 rfl)) (hS.step (i := 20) hS.bel)).toS
      · exact runs rfl (gives_move (x := .tmp 41) rfl (show σ 20 = _ from hS.val 20 (hp 20 rfl)) (hS.step (i := 21) hS.bel)).toS
      · exact runs (by show wantV (σ 21) false = true; rw [hS.val 21 (hp 21 rfl)]; rfl) (gives_move (x := .tmp 0) rfl rfl (hS.step (i := 22) hS.bel)).toS
      · exact runs (by show wantV (σ 21) false = true; rw [hS.val 21 (hp 21 rfl)]; rfl) (gives_nil (x := .tmp 43) rfl (show σ 22 = _ from hS.val 22 (hp 22 rfl)) (hS.step (i := 23) hS.bel)).toS
      · exact runs (by show wantV (σ 21) false = true; rw [hS.val 21 (hp 21 rfl)]; rfl) (gives_field (T := 28) (x := .tmp 44) rfl (show σ 23 = _ from hS.val 23 (hp 23 rfl)) (run_fieldN1 _ _) (hS.step (i := 24) hS.bel)).toS
      · exact runs (by show wantV (σ 21) false = true; rw [hS.val 21 (hp 21 rfl)]; rfl) (gives_load (T := 22) (x := .tmp 45) rfl (show σ 24 = _ from hS.val 24 (hp 24 rfl)) (run_load_pts _ _ _ _ ((hS.bel.cell (p := ⟨X, 1, none⟩) XW).trans x1)) (hS.step (i := 25) hS.bel)).toS
      · exact runs (by show wantV (σ 21) false = true; rw [hS.val 21 (hp 21 rfl)]; rfl) (gives_move (x := .tmp 7) rfl rfl (hS.step (i := 26) hS.bel)).toS
      · exact runs (by show wantV (σ 21) false = true; rw [hS.val 21 (hp 21 rfl)]; rfl) (gives_index (T := 22) (x := .tmp 46) (y := .tmp 47) rfl (show σ 25 = _ from hS.val 25 (hp 25 rfl)) (show σ 26 = _ from hS.val 26 (hp 26 rfl)) (run_index_pt _ _ _ _ _ hx) (hS.step (i := 27) hS.bel)).toS
      · exact runs (by show wantV (σ 21) false = true; rw [hS.val 21 (hp 21 rfl)]; rfl) (gives_load (T := 32) (x := .tmp 48) rfl (show σ 27 = _ from hS.val 27 (hp 27 rfl)) (run_load_pt _ _ _ _ _ ((hS.bel.cell (p := ⟨g, x * 2, none⟩) gW).trans d0) ((hS.bel.cell (p := ⟨g, x * 2 + 1, none⟩) gW).trans d1)) (hS.step (i := 28) hS.bel)).toS
      · exact runs (by show wantV (σ 21) false = true; rw [hS.val 21 (hp 21 rfl)]; rfl) (gives_move (x := .tmp 0) rfl rfl (hS.step (i := 29) hS.bel)).toS
      · exact runs (by show wantV (σ 21) false = true; rw [hS.val 21 (hp 21 rfl)]; rfl) (gives_nil (x := .tmp 50) rfl (show σ 29 = _ from hS.val 29 (hp 29 rfl)) (hS.step (i := 30) hS.bel)).toS
      · exact runs (by show wantV (σ 21) false = true; rw [hS.val 21 (hp 21 rfl)]; rfl) (gives_field (T := 28) (x := .tmp 51) rfl (show σ 30 = _ from hS.val 30 (hp 30 rfl)) (run_fieldN1 _ _) (hS.step (i := 31) hS.bel)).toS
      · exact runs (by show wantV (σ 21) false = true; rw [hS.val 21 (hp 21 rfl)]; rfl) (gives_load (T := 22) (x := .tmp 52) rfl (show σ 31 = _ from hS.val 31 (hp 31 rfl)) (run_load_pts _ _ _ _ ((hS.bel.cell (p := ⟨X, 1, none⟩) XW).trans x1)) (hS.step (i := 32) hS.bel)).toS
      · exact runs (by show wantV (σ 21) false = true; rw [hS.val 21 (hp 21 rfl)]; rfl) (gives_move (x := .tmp 8) rfl rfl (hS.step (i := 33) hS.bel)).toS
      · exact runs (by show wantV (σ 21) false = true; rw [hS.val 21 (hp 21 rfl)]; rfl) (gives_index (T := 22) (x := .tmp 53) (y := .tmp 54) rfl (show σ 32 = _ from hS.val 32 (hp 32 rfl)) (show σ 33 = _ from hS.val 33 (hp 33 rfl)) (run_index_pt _ _ _ _ _ hy) (hS.step (i := 34) hS.bel)).toS
      · exact runs (by show wantV (σ 21) false = true; rw [hS.val 21 (hp 21 rfl)]; rfl) (gives_load (T := 32) (x := .tmp 55) rfl (show σ 34 = _ from hS.val 34 (hp 34 rfl)) (run_load_pt _ _ _ _ _ ((hS.bel.cell (p := ⟨g, y * 2, none⟩) gW).trans d2) ((hS.bel.cell (p := ⟨g, y * 2 + 1, none⟩) gW).trans d3)) (hS.step (i := 35) hS.bel)).toS
      · exact runs (by show wantV (σ 21) false = true; rw [hS.val 21 (hp 21 rfl)]; rfl) (gives_load (T := 32) (x := .tmp 5) rfl rfl (run_load_pt _ _ _ _ _ ((hS.bel.cell (p := ⟨B1, 0, none⟩) BW1).trans k4) ((hS.bel.cell (p := ⟨B1, 1, none⟩) BW1).trans k5)) (hS.step (i := 36) hS.bel)).toS
      · have e28 : σ 28 = _ := hS.val 28 (hp 28 rfl)
        have e35 : σ 35 = _ := hS.val 35 (hp 35 rfl)
        have e36 : σ 36 = _ := hS.val 36 (hp 36 rfl)
        exact runs (by show wantV (σ 21) false = true; rw [hS.val 21 (hp 21 rfl)]; rfl) (gives_call (f := 19) (args := [.agg #[.int .i64 ax, .int .i64 ay], .agg #[.int .i64 bx, .int .i64 by2], .agg #[.int .i64 px, .int .i64 py]]) rfl rfl (by show [σ 28, σ 35, σ 36] = _; rw [e28, e35, e36]; rfl) (by go_simp) ((SC wx).mono fun e w' h => ⟨_, h.1, hS.step (i := 37) (hS.bel.trans (h.2.mono hS.bel.size))⟩)).toS
      · exact runs (by show wantV (σ 21) false = true; rw [hS.val 21 (hp 21 rfl)]; rfl) (gives_bin (b := .neq) (x := .tmp 58) (y := .const (.int .i64 0)) rfl (show σ 37 = _ from hS.val 37 (hp 37 rfl)) rfl (run_neF _ _ _ _) (hS.step (i := 38) hS.bel)).toS
      · exact runs rfl (gives_pickF (c := .tmp 42) (b := .tmp 59) rfl (show σ 21 = _ from hS.val 21 (hp 21 rfl)) (show σ 38 = _ from hS.val 38 (hp 38 rfl)) (hS.step (i := 39) hS.bel)).toS
    · intro Ls σ wx hS hall
      have e39 : σ 39 = .bool false := hS.val 39 (hall 39 (by omega))
      have hbx := hS.bel
      clear hS
      refine ⟨?_⟩
      simp only [lay, Act.put, List.drop_succ_cons, List.drop_zero, List.setIfInBounds_toArray, List.set_cons_succ, List.set_cons_zero, e39]
      go_wp2_with fail
      go_meet
      exact ⟨rfl, hbx⟩
  case rest =>
    as_aux_lemma =>
    obtain ⟨rfl, hbx⟩ := hcut
    have hb2 := hb1.trans (hbx.mono (by have := hb1.size; have := HB.out; omega))
    replace d0 := (hbx.cell (p := ⟨g, x * 2, none⟩) gW).trans d0
    replace d1 := (hbx.cell (p := ⟨g, x * 2 + 1, none⟩) gW).trans d1
    replace d2 := (hbx.cell (p := ⟨g, y * 2, none⟩) gW).trans d2
    replace d3 := (hbx.cell (p := ⟨g, y * 2 + 1, none⟩) gW).trans d3
    replace k4 := (hbx.cell (p := ⟨B1, 0, none⟩) BW1).trans k4
    replace k5 := (hbx.cell (p := ⟨B1, 1, none⟩) BW1).trans k5
    replace x1 := (hbx.cell (p := ⟨X, 1, none⟩) XW).trans x1
    replace gW := Nat.lt_of_lt_of_le gW hbx.size
    replace XW := Nat.lt_of_lt_of_le XW hbx.size
    replace BW1 := Nat.lt_of_lt_of_le BW1 hbx.size
    clear k1 k2 k3 BW SC f1 f2 f3 hbx
    generalize wc = V2 at *
    go_wp2_with fail
    go_cut [9, 10] (fun s9 s10 wx => ∃ p q, s9 = .pointer (some ⟨p, 0, none⟩) ∧ s10 = .pointer (some ⟨q, 0, none⟩) ∧ p < wx.heap.size ∧ q < wx.heap.size ∧
      wx.cell? ⟨p, 0, none⟩ = some (.int .i64 ax) ∧ wx.cell? ⟨p, 1, none⟩ = some (.int .i64 ay) ∧ wx.cell? ⟨q, 0, none⟩ = some (.int .i64 bx) ∧ wx.cell? ⟨q, 1, none⟩ = some (.int .i64 by2) ∧ Below V2.heap.size V2 wx)
    case first =>
      as_aux_lemma =>
      have HKD := kdE_put X g n c x y ax ay bx by2
      refine wp_region_inv (m := 18) (by kernel_rfl) (by kernel_rfl) (dsts := [some 61, some 62, some 63, some 64, some 65, some 66, some 67, some 68, some 69, some 70, some 71, some 72, some 73, some 74, some 9, some 10, none, none]) rfl (by kernel_rfl) (l := []) rfl (Sow V2 32 (kdE X g n c x y ax ay bx by2)) (Sow.start _ _ _ _) ?_ ?_
      · refine (flS (flS (flS (flS (flS (flS (flS (flS (flS (flS (flS (flS (flS (flS (flS (flS (flS (flS fl0 ?_) ?_) ?_) ?_) ?_) ?_) ?_) ?_) ?_) ?_) ?_) ?_) ?_) ?_) ?_) ?_) ?_) ?_)
        all_goals intro Ls σ wx hS hp hdn hun
        · exact (gives_move (x := .tmp 0) rfl rfl (hS.stepV (i := 0) rfl)).toS
        · exact (gives_nil (x := .tmp 61) rfl (show σ 0 = _ from hS.val 0 _ rfl (hp 0 rfl)) (hS.stepV (i := 1) rfl)).toS
        · exact (gives_field (T := 28) (x := .tmp 62) rfl (show σ 1 = _ from hS.val 1 _ rfl (hp 1 rfl)) (run_fieldN1 _ _) (hS.stepV (i := 2) rfl)).toS
        · exact (gives_load (T := 22) (x := .tmp 63) rfl (show σ 2 = _ from hS.val 2 _ rfl (hp 2 rfl)) (run_load_pts _ _ _ _ ((hS.bel.cell (p := ⟨X, 1, none⟩) XW).trans x1)) (hS.stepV (i := 3) rfl)).toS
        · exact (gives_move (x := .tmp 7) rfl rfl (hS.stepV (i := 4) rfl)).toS
        · exact (gives_index (T := 22) (x := .tmp 64) (y := .tmp 65) rfl (show σ 3 = _ from hS.val 3 _ rfl (hp 3 rfl)) (show σ 4 = _ from hS.val 4 _ rfl (hp 4 rfl)) (run_index_pt _ _ _ _ _ hx) (hS.stepV (i := 5) rfl)).toS
        · exact (gives_load (T := 32) (x := .tmp 66) rfl (show σ 5 = _ from hS.val 5 _ rfl (hp 5 rfl)) (run_load_pt _ _ _ _ _ ((hS.bel.cell (p := ⟨g, x * 2, none⟩) gW).trans d0) ((hS.bel.cell (p := ⟨g, x * 2 + 1, none⟩) gW).trans d1)) (hS.stepV (i := 6) rfl)).toS
        · exact (gives_move (x := .tmp 0) rfl rfl (hS.stepV (i := 7) rfl)).toS
        · exact (gives_nil (x := .tmp 68) rfl (show σ 7 = _ from hS.val 7 _ rfl (hp 7 rfl)) (hS.stepV (i := 8) rfl)).toS
        · exact (gives_field (T := 28) (x := .tmp 69) rfl (show σ 8 = _ from hS.val 8 _ rfl (hp 8 rfl)) (run_fieldN1 _ _) (hS.stepV (i := 9) rfl)).toS
        · exact (gives_load (T := 22) (x := .tmp 70) rfl (show σ 9 = _ from hS.val 9 _ rfl (hp 9 rfl)) (run_load_pts _ _ _ _ ((hS.bel.cell (p := ⟨X, 1, none⟩) XW).trans x1)) (hS.stepV (i := 10) rfl)).toS
        · exact (gives_move (x := .tmp 8) rfl rfl (hS.stepV (i := 11) rfl)).toS
        · exact (gives_index (T := 22) (x := .tmp 71) (y := .tmp 72) rfl (show σ 10 = _ from hS.val 10 _ rfl (hp 10 rfl)) (show σ 11 = _ from hS.val 11 _ rfl (hp 11 rfl)) (run_index_pt _ _ _ _ _ hy) (hS.stepV (i := 12) rfl)).toS
        · exact (gives_load (T := 32) (x := .tmp 73) rfl (show σ 12 = _ from hS.val 12 _ rfl (hp 12 rfl)) (run_load_pt _ _ _ _ _ ((hS.bel.cell (p := ⟨g, y * 2, none⟩) gW).trans d2) ((hS.bel.cell (p := ⟨g, y * 2 + 1, none⟩) gW).trans d3)) (hS.stepV (i := 13) rfl)).toS
        · refine (gives_alloc (T := 32) rfl (run_alloc_pt _) (hS.stepF (i := 14) rfl (fun q u v hq => ?_) _ _)).toS
          have hq2 : q = 16 := by have := HKD q 14 u v hq; omega
          subst hq2
          cases hlq : Ls 16 with
          | false => rfl
          | true => have := hdn 16 14 hlq rfl; rw [hun] at this; cases this
        · refine (gives_alloc (T := 32) rfl (run_alloc_pt _) (hS.stepF (i := 15) rfl (fun q u v hq => ?_) _ _)).toS
          have hq2 : q = 17 := by have := HKD q 15 u v hq; omega
          subst hq2
          cases hlq : Ls 17 with
          | false => rfl
          | true => have := hdn 17 15 hlq rfl; rw [hun] at this; cases this
        · obtain ⟨bb, c0, c1, e1, e2, e3, e4⟩ := hS.fre 14 rfl (hp 14 rfl)
          exact gives_store (T := 32) (x := .tmp 9) (y := .tmp 67) rfl (show σ 14 = _ from e1) (show σ 6 = _ from hS.val 6 _ rfl (hp 6 rfl)) (run_store_ptF _ _ c0 c1 _ _ e3) (hS.stepP (i := 16) rfl rfl (hp 14 rfl) e1 (fun q u v hq => by have := HKD q 14 u v hq; omega))
        · obtain ⟨bb, c0, c1, e1, e2, e3, e4⟩ := hS.fre 15 rfl (hp 15 rfl)
          exact gives_store (T := 32) (x := .tmp 10) (y := .tmp 74) rfl (show σ 15 = _ from e1) (show σ 13 = _ from hS.val 13 _ rfl (hp 13 rfl)) (run_store_ptF _ _ c0 c1 _ _ e3) (hS.stepP (i := 17) rfl rfl (hp 15 rfl) e1 (fun q u v hq => by have := HKD q 15 u v hq; omega))
      · intro Ls σ wx hS hall
        obtain ⟨b14, c14a, c14b, e14, g14, hh14, hu14⟩ := hS.fre 14 rfl (hall 14 (by omega))
        obtain ⟨rfl, rfl⟩ := hu14 16 (.int .i64 ax) (.int .i64 ay) rfl (hall 16 (by omega))
        obtain ⟨b15, c15a, c15b, e15, g15, hh15, hu15⟩ := hS.fre 15 rfl (hall 15 (by omega))
        obtain ⟨rfl, rfl⟩ := hu15 17 (.int .i64 bx) (.int .i64 by2) rfl (hall 17 (by omega))
        refine ⟨?_⟩
        simp only [lay, Act.put, List.drop_succ_cons, List.drop_zero, List.setIfInBounds_toArray, List.set_cons_succ, List.set_cons_zero, e14, e15]
        go_wp2_with fail
        go_meet
        exact ⟨b14, b15, rfl, rfl, lt_some hh14, lt_some hh15, cell_of_heap hh14 0, cell_of_heap hh14 1, cell_of_heap hh15 0, cell_of_heap hh15 1, hS.bel⟩
    case rest =>
      as_aux_lemma =>
      obtain ⟨p, q, rfl, rfl, hp, hq, p0, p1, q0, q1, hbx⟩ := hcut
      replace k4 := (hbx.cell (p := ⟨B1, 0, none⟩) BW1).trans k4
      replace k5 := (hbx.cell (p := ⟨B1, 1, none⟩) BW1).trans k5
      replace BW1 := Nat.lt_of_lt_of_le BW1 hbx.size
      have hb3 := hb2.trans (hbx.mono (by have := hb2.size; have := HB.out; omega))
      obtain ⟨a1, a2, a3, a4⟩ := nA; obtain ⟨b1, b2, b3, b4⟩ := nB; obtain ⟨c1, c2, c3, c4⟩ := hpn
      have m1 := @mul_bd (px - ax) (px - bx) 16000 16000 (by omega) (by omega) (by omega) (by omega)
      have m2 := @mul_bd (py - ay) (py - by2) 16000 16000 (by omega) (by omega) (by omega) (by omega)
      have hlt2 : decide ((px - ax) * (px - bx) + (py - ay) * (py - by2) < 0) = true := decide_eq_true s2
      clear x1 d0 d1 d2 d3 gW XW hbx hb2 hb1 hx hy hlt s1
      go_wp2
      go_ret
      exact ⟨rfl, by rw [HB.out]; exact hb3⟩
end Go.Proofs.YtgpapegpdfonpaaGreat

