/-
  Triangles are put into the map.
-/
import Derived.Test.YtgpapegpdfonpaaJoinB
import Derived.Deep.RegionHeld3
namespace Go.Proofs.Ytgpapegpdfonpaa
set_option linter.unusedVariables false
set_option linter.unusedSimpArgs false
open Go.RowKit Go.Maps

/-- the world behind a store into a map -/
noncomputable def putW (T A : Nat) (a b : Int) (v : Value) (w : World) : World := match (Instr.mapUpdate T (.map (some A)) (keyv a b) v).run Try.prog w with | .ok _ w' => w' | .halt _ w' => w'
theorem put_run {A n : Nat} {a b : Int} {f : Int → Int → Option Value} {w : World} (v : Value) (ha : I64 a) (hb : I64 b) (hn : n < maxLen) {T E : TypeId} (ht : Try.prog.underlying T = some (.map 107 E)) (h : MapIs Try.prog 107 w A n f) :
    (Instr.mapUpdate T (.map (some A)) (keyv a b) v).run Try.prog w = .ok () (putW T A a b v w) ∧ MapIs Try.prog 107 (putW T A a b v w) A (n + 1) (upd f a b (some v)) ∧ w.grownBy (putW T A a b v w) (some A) := by
  obtain ⟨w', h1, h2, h3⟩ := h.put pairK hn ht ha hb v
  have e : putW T A a b v w = w' := by unfold putW; rw [h1]
  rw [e]; exact ⟨h1, h2, h3⟩

theorem cell_blk {w : World} {b o : Nat} {v : Value} (h : w.cell? ⟨b, o, none⟩ = some v) : b < w.heap.size := by
  rcases Nat.lt_or_ge b w.heap.size with k | k
  · exact k
  · have : w.heap[b]? = none := by simp [k]
    simp [World.cell?, this] at h
theorem MapIs.ne_cell {P : Program} {K : TypeId} {w : World} {A n : Nat} {f : Int → Int → Option Value} (h : MapIs P K w A n f) {b o : Nat} {v : Value} (hc : w.cell? ⟨b, o, none⟩ = some v) : b ≠ A := by
  obtain ⟨D, ⟨es, clock, hb, _⟩, _⟩ := h
  intro e; subst e
  simp [World.cell?, hb] at hc

theorem put_drew {A n : Nat} {a b : Int} {f : Int → Int → Option Value} {w : World} (v : Value) (ha : I64 a) (hb : I64 b) (hn : n < maxLen) {T E : TypeId} (ht : Try.prog.underlying T = some (.map 107 E)) (h : MapIs Try.prog 107 w A n f) :
    (Instr.mapUpdate T (.map (some A)) (keyv a b) v).run Try.prog w.drew = .ok () (putW T A a b v w.drew) ∧ MapIs Try.prog 107 (putW T A a b v w.drew) A (n + 1) (upd f a b (some v)) ∧ w.grownBy (putW T A a b v w.drew) (some A) ∧
      ∀ b' o u, w.cell? ⟨b', o, none⟩ = some u → (putW T A a b v w.drew).cell? ⟨b', o, none⟩ = some u := by
  obtain ⟨h1, h2, h3⟩ := put_run v ha hb hn ht (h.block (w' := w.drew) rfl)
  have h3' : w.grownBy (putW T A a b v w.drew) (some A) := ⟨h3.os, h3.tape, h3.output, h3.size, h3.block⟩
  exact ⟨h1, h2, h3', fun b' o u hc => h3'.cell hc (fun e => h.ne_cell hc (by simpa using e))⟩

set_option maxRecDepth 100000 in
set_option maxHeartbeats 1000000 in
theorem put_any (N A n : Nat) (a b c : Int) (f : Int → Int → Option Value) (w : World) (ha : I64 a) (hb : I64 b) (hc : I64 c) (hn : n + 3 < maxLen)
    (hA : w.cell? ⟨N, 2, none⟩ = some (.map (some A))) (hm : MapIs Try.prog 107 w A n f) :
    Calls Try.prog 66 #[.pointer (some ⟨N, 0, none⟩), iv a, iv b, iv c] w fun e w' =>
      e = .returned (.tuple #[]) ∧ MapIs Try.prog 107 w' A (n + 3) (upd (upd (upd f a b (some (rotV a b c))) b c (some (rotV a b c))) c a (some (rotV a b c))) ∧ w.grownBy w' (some A) := by
  have hfl := fromLeast_any a b c w
  obtain ⟨t0, t1, t2, hrot⟩ : ∃ t0 t1 t2, rotV a b c = triV t0 t1 t2 := ⟨_, _, _, rfl⟩
  rw [hrot] at hfl ⊢
  clear hrot
  have hNlt : N < w.heap.size := cell_blk hA
  go_enter Try.func66, Try.ntmps66
  go_wp2_with (go_at_call 89; refine hfl.mono ?_; rintro e w1 ⟨rfl, hb1⟩)
  generalize hW : w1.alloc (.cells #[.int .i64 t0, .int .i64 t1, .int .i64 t2] 42) = W
  have hbW : Below w.heap.size w W := by rw [← hW]; exact hb1.alloc hb1.size _
  have hgW : w.grownBy W (some A) := (below_grown hbW (Nat.le_refl _)).but _
  have c0 : W.cell? ⟨w1.heap.size, 0, none⟩ = some (.int .i64 t0) := by rw [← hW]; simp [go_sem]
  have c1 : W.cell? ⟨w1.heap.size, 1, none⟩ = some (.int .i64 t1) := by rw [← hW]; simp [go_sem]
  have c2 : W.cell? ⟨w1.heap.size, 2, none⟩ = some (.int .i64 t2) := by rw [← hW]; simp [go_sem]
  have cA : W.cell? ⟨N, 2, none⟩ = some (.map (some A)) := (hbW.cell (p := ⟨N, 2, none⟩) hNlt).trans hA
  have hmW : MapIs Try.prog 107 W A n f := hm.below hbW hm.lt
  clear hW hfl hbW hm hA
  generalize w1.heap.size = B8 at *
  clear hb1
  -- the first
  have P1 := put_drew (triV t0 t1 t2) ha hb (by omega) Try.underlying101 hmW
  generalize hW2 : putW 101 A a b (triV t0 t1 t2) W.drew = W2 at P1
  obtain ⟨r1, m1, g1, k1⟩ := P1
  have d0 := k1 _ _ _ c0; have d1 := k1 _ _ _ c1; have d2 := k1 _ _ _ c2; have dA := k1 _ _ _ cA
  go_region_held3 (fun w' => w'.cell? ⟨N, 2, none⟩ = some (.map (some A)) ∧ w'.cell? ⟨B8, 0, none⟩ = some (.int .i64 t0) ∧ w'.cell? ⟨B8, 1, none⟩ = some (.int .i64 t1) ∧ w'.cell? ⟨B8, 2, none⟩ = some (.int .i64 t2)) (first | exact ⟨dA, d0, d1, d2⟩ | go_keep) (fail)
  go_wp2_with fail
  clear r1 k1 c0 c1 c2 cA hmW hW2
  -- the second
  have P2 := put_drew (triV t0 t1 t2) hb hc (by omega) Try.underlying101 m1
  generalize hW3 : putW 101 A b c (triV t0 t1 t2) W2.drew = W3 at P2
  obtain ⟨r2, m2, g2, k2⟩ := P2
  have e0 := k2 _ _ _ d0; have e1 := k2 _ _ _ d1; have e2 := k2 _ _ _ d2; have eA := k2 _ _ _ dA
  go_region_held3 (fun w' => w'.cell? ⟨N, 2, none⟩ = some (.map (some A)) ∧ w'.cell? ⟨B8, 0, none⟩ = some (.int .i64 t0) ∧ w'.cell? ⟨B8, 1, none⟩ = some (.int .i64 t1) ∧ w'.cell? ⟨B8, 2, none⟩ = some (.int .i64 t2)) (first | exact ⟨eA, e0, e1, e2⟩ | go_keep) (fail)
  go_wp2_with fail
  clear r2 k2 d0 d1 d2 dA m1 hW3
  -- the third
  have P3 := put_drew (triV t0 t1 t2) hc ha (by omega) Try.underlying101 m2
  generalize hW4 : putW 101 A c a (triV t0 t1 t2) W3.drew = W4 at P3
  obtain ⟨r3, m3, g3, k3⟩ := P3
  have f0 := k3 _ _ _ e0; have f1 := k3 _ _ _ e1; have f2 := k3 _ _ _ e2; have fA := k3 _ _ _ eA
  go_region_held3 (fun w' => w'.cell? ⟨N, 2, none⟩ = some (.map (some A)) ∧ w'.cell? ⟨B8, 0, none⟩ = some (.int .i64 t0) ∧ w'.cell? ⟨B8, 1, none⟩ = some (.int .i64 t1) ∧ w'.cell? ⟨B8, 2, none⟩ = some (.int .i64 t2)) (first | exact ⟨fA, f0, f1, f2⟩ | go_keep) (fail)
  go_wp2_with fail
  go_end0
  exact ⟨rfl, m3, hgW.andThen (g1.andThen (g2.andThen g3 (fun j hj => .inr hj)) (fun j hj => .inr hj)) (fun j hj => .inr hj)⟩
end Go.Proofs.Ytgpapegpdfonpaa
