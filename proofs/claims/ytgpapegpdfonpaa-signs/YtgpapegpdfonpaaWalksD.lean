/-
  The statements' own points, out of raw numbers.
-/
import Derived.Test.YtgpapegpdfonpaaWalksC
namespace Go.Proofs.Ytgpapegpdfonpaa
set_option linter.unusedVariables false
set_option linter.unusedSimpArgs false
open Go.RowKit
attribute [local go_sem ↓] Go.wp_at_zero Go.wp_at_succ

def ptX (x step : Int) : Int := if pk step 40 = 39 then pk x 16001 - 8000 else (1 + pk step 40) * (pk x 9 + 8000 / (1 + pk step 40) - 8)
def ptY (y step : Int) : Int := if pk step 40 = 39 then pk y 16001 - 8000 else (1 + pk step 40) * (pk y 9 - 8000 / (1 + pk step 40))

theorem div_bd (q : Int) (h0 : 0 ≤ q) (h1 : q < 39) : 205 ≤ 8000 / (1 + q) ∧ (1 + q) * (8000 / (1 + q)) ≤ 8000 ∧ 8000 / (1 + q) ≤ 8000 := by
  have h2 : (1 + q) * (8000 / (1 + q)) ≤ 8000 := Int.mul_ediv_self_le (by omega)
  refine ⟨?_, h2, ?_⟩
  · exact (Int.le_ediv_iff_mul_le (by omega)).2 (by omega)
  · exact Int.ediv_le_self _ (by omega)

theorem near_pt (x y step : Int) : Near (ptX x step) (ptY y step) := by
  have hq := pk_bd step 40 (by omega)
  unfold ptX ptY
  generalize pk step 40 = q at *
  by_cases h : q = 39
  · rw [if_pos h, if_pos h]
    have := pk_bd x 16001 (by omega)
    have := pk_bd y 16001 (by omega)
    exact ⟨by omega, by omega, by omega, by omega⟩
  · rw [if_neg h, if_neg h]
    have hx := pk_bd x 9 (by omega)
    have hy := pk_bd y 9 (by omega)
    obtain ⟨d1, d2, d3⟩ := div_bd q (by omega) (by omega)
    generalize 8000 / (1 + q) = n at *
    have e1 : (1 + q) * (pk x 9 + n - 8) ≤ (1 + q) * n := Int.mul_le_mul_of_nonneg_left (by omega) (by omega)
    have e2 : 0 ≤ (1 + q) * (pk x 9 + n - 8) := Int.mul_nonneg (by omega) (by omega)
    have e3 : (1 + q) * (pk y 9 - n) ≤ 0 := Int.mul_nonpos_of_nonneg_of_nonpos (by omega) (by omega)
    have e4 : (1 + q) * (-n) ≤ (1 + q) * (pk y 9 - n) := Int.mul_le_mul_of_nonneg_left (by omega) (by omega)
    rw [Int.mul_neg] at e4
    exact ⟨by omega, by omega, by omega, by omega⟩

theorem near_pt_raw (q a b : Int) (h0 : 0 ≤ q) (h1 : q < 39) (a0 : 0 ≤ a) (a1 : a < 9) (b0 : 0 ≤ b) (b1 : b < 9) :
    Near ((1 + q) * (a + 8000 / (1 + q) - 8)) ((1 + q) * (b - 8000 / (1 + q))) := by
  obtain ⟨d1, d2, d3⟩ := div_bd q (by omega) (by omega)
  generalize 8000 / (1 + q) = n at *
  have e1 : (1 + q) * (a + n - 8) ≤ (1 + q) * n := Int.mul_le_mul_of_nonneg_left (by omega) (by omega)
  have e2 : 0 ≤ (1 + q) * (a + n - 8) := Int.mul_nonneg (by omega) (by omega)
  have e3 : (1 + q) * (b - n) ≤ 0 := Int.mul_nonpos_of_nonneg_of_nonpos (by omega) (by omega)
  have e4 : (1 + q) * (-n) ≤ (1 + q) * (b - n) := Int.mul_le_mul_of_nonneg_left (by omega) (by omega)
  rw [Int.mul_neg] at e4
  exact ⟨by omega, by omega, by omega, by omega⟩

theorem wrap_id {n : Int} (h1 : -9223372036854775808 ≤ n) (h2 : n ≤ 9223372036854775807) : IntKind.i64.wrap n = n := by
  simp [IntKind.wrap, IntKind.bits, IntKind.signed]; omega

set_option maxHeartbeats 1000000 in
theorem point_any (x y step : Int) (w : World) (x1 : -9223372036854775808 ≤ x) (x2 : x ≤ 9223372036854775807) (y1 : -9223372036854775808 ≤ y) (y2 : y ≤ 9223372036854775807) (t1 : -9223372036854775808 ≤ step) (t2 : step ≤ 9223372036854775807) :
    Calls Try.prog 8 #[.agg #[.int .i64 x, .int .i64 y], .int .i64 step] w fun e w' =>
      e = .returned (.agg #[.int .i64 (ptX x step), .int .i64 (ptY y step)]) ∧ Below w.heap.size w w' := by
  have hq := pk_bd step 40 (by omega)
  have HP : ∀ w, Calls Try.prog 14 #[.int .i64 step, .int .i64 40] w fun e w' => e = .returned (.int .i64 (pk step 40)) ∧ w' = w := fun w => pick_any step 40 w t1 t2 (by omega) (by omega)
  unfold ptX ptY
  generalize pk step 40 = q at *
  by_cases h : q = 39
  · subst h
    rw [if_pos rfl, if_pos rfl]
    have hx := pk_bd x 16001 (by omega)
    have hy := pk_bd y 16001 (by omega)
    go_enter Try.func8, Try.ntmps8
    go_wp2_with (go_at_call 14; refine (HP _).mono ?_; rintro e w' ⟨rfl, rfl⟩)
    have wx' := wrap_id (n := pk x 16001 - 8000) (by omega) (by omega)
    have wy' := wrap_id (n := pk y 16001 - 8000) (by omega) (by omega)
    go_region_held3 (fun w' => w'.cell? ⟨w.heap.size, 0, none⟩ = some (.int .i64 x) ∧ w'.cell? ⟨w.heap.size, 1, none⟩ = some (.int .i64 y)) (refine ⟨?_, ?_⟩ <;> (simp [go_sem]; done))
      (first
        | (go_at_call 14; refine (pick_any _ _ _ (by assumption) (by assumption) (by omega) (by omega)).mono ?_; rintro e w' ⟨rfl, rfl⟩))
    go_wp2
    exact bodyPost_ret (v := .agg #[.int .i64 (pk x 16001 - 8000), .int .i64 (pk y 16001 - 8000)]) (by simp [results, Try.results8, go_sem]) rfl ⟨rfl, (below2 _ _ _).drew⟩
  · rw [if_neg h, if_neg h]
    have hx := pk_bd x 9 (by omega)
    have hy := pk_bd y 9 (by omega)
    obtain ⟨d1, d2, d3⟩ := div_bd q (by omega) (by omega)
    have N := near_pt_raw q (pk x 9) (pk y 9) (by omega) (by omega) (by omega) (by omega) (by omega) (by omega)
    have hd : (8000 : Int) / (1 + q) ≤ 8000 := d3
    go_enter Try.func8, Try.ntmps8
    go_wp2_with (go_at_call 14; refine (HP _).mono ?_; rintro e w' ⟨rfl, rfl⟩)
    generalize hN : 8000 / (1 + q) = n at *
    obtain ⟨n1, n2, n3, n4⟩ := N
    have w1 := wrap_id (n := pk x 9 + n) (by omega) (by omega)
    have w2 := wrap_id (n := pk x 9 + n - 8) (by omega) (by omega)
    have w3 := wrap_id (n := (1 + q) * (pk x 9 + n - 8)) (by omega) (by omega)
    have w4 := wrap_id (n := pk y 9 - n) (by omega) (by omega)
    have w5 := wrap_id (n := (1 + q) * (pk y 9 - n)) (by omega) (by omega)
    go_region_held3 (fun w' => w'.cell? ⟨w.heap.size, 0, none⟩ = some (.int .i64 x) ∧ w'.cell? ⟨w.heap.size, 1, none⟩ = some (.int .i64 y)) (refine ⟨?_, ?_⟩ <;> (simp [go_sem]; done))
      (first
        | (go_at_call 14; refine (pick_any _ _ _ (by assumption) (by assumption) (by omega) (by omega)).mono ?_; rintro e w' ⟨rfl, rfl⟩))
    go_wp2
    exact bodyPost_ret (v := .agg #[.int .i64 ((1 + q) * (pk x 9 + n - 8)), .int .i64 ((1 + q) * (pk y 9 - n))]) (by simp [results, Try.results8, go_sem]) rfl ⟨by rw [hN], (below2 _ _ _).drew⟩

end Go.Proofs.Ytgpapegpdfonpaa
