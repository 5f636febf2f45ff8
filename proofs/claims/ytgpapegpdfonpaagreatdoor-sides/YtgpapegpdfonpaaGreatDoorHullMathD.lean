/-
  The hull's corners, all that is asked of them.
-/
import Derived.Test.YtgpapegpdfonpaaGreatDoorHullMathC
namespace Go.Proofs.YtgpapegpdfonpaaGreatDoor
set_option linter.unusedVariables false
set_option linter.unusedSimpArgs false

theorem tr_gt2 {nx ny cx cy qx qy : Int} (hn : fw nx ny) (hc : fw cx cy) (hq : fw qx qy) (h1 : 0 < nx * cy - ny * cx) (h2 : 0 ≤ cx * qy - cy * qx) : 0 < nx * qy - ny * qx := by
  have hnx := fw_x hn; have hqx := fw_x hq
  rcases hc with hc | ⟨rfl, hc⟩
  · have e : cx * (nx * qy - ny * qx) = qx * (nx * cy - ny * cx) + nx * (cx * qy - cy * qx) := by grind
    have hn' : 0 < nx := by
      rcases hn with hn | ⟨rfl, hn⟩
      · exact hn
      · have := Int.mul_pos hn hc; omega
    rcases hq with hq | ⟨rfl, hq⟩
    · have := Int.mul_pos hq h1; have := Int.mul_nonneg hnx h2
      exact pos_of_mul hc (by omega)
    · have := Int.mul_pos hn' hq; omega
  · have hn' : 0 < nx := pos_of_mul hc (by rw [Int.mul_comm]; omega)
    have hq0 : qx = 0 := by
      rcases ilt_or_ge 0 qx with k | k
      · have := Int.mul_pos hc k; omega
      · omega
    subst hq0
    have hqy : 0 < qy := by unfold fw at hq; omega
    have := Int.mul_pos hn' hqy
    omega

theorem no_both {A x B C : Pt} (h1 : plt A x) (h2 : plt x B) (h3 : plt x C) (t : 0 < sd A x B) (e1 : 0 ≤ sd x B C) (e2 : 0 ≤ sd A x C) (e3 : 0 ≤ sd C x A) : False := by
  have f1 := plt_fw h1; have f2 := plt_fw h2; have f3 := plt_fw h3
  have c0 : sd C x A = - sd A x C := by unfold sd; grind
  have c1 : sd A x B = (x.1 - A.1) * (B.2 - x.2) - (x.2 - A.2) * (B.1 - x.1) := by unfold sd; grind
  have c2 : sd A x C = (x.1 - A.1) * (C.2 - x.2) - (x.2 - A.2) * (C.1 - x.1) := by unfold sd; grind
  have := tr_gt2 f1 f2 f3 (by omega) e1
  omega

theorem Way.mono {S F : List Pt} (W : Way S F) : ∀ (d i : Nat) (h : i + d + 1 < F.length), plt (F[i]'(by omega)) (F[i + d + 1]'h) := by
  intro d
  induction d with
  | zero => intro i h; exact (W.edge i (by omega)).2
  | succ d ih => intro i h; exact plt_trans (ih i (by omega)) (W.edge (i + d + 1) (by omega)).2
theorem Back.mono {S F : List Pt} (W : Back S F) : ∀ (d i : Nat) (h : i + d + 1 < F.length), plt (F[i + d + 1]'h) (F[i]'(by omega)) := by
  intro d
  induction d with
  | zero => intro i h; exact (W.edge i (by omega)).2
  | succ d ih => intro i h; exact plt_trans (W.edge (i + d + 1) (by omega)).2 (ih i (by omega))
theorem Way.lt {S F : List Pt} (W : Way S F) {i j : Nat} (hij : i < j) (h : j < F.length) : plt (F[i]'(by omega)) (F[j]'h) := by
  have := W.mono (j - i - 1) i (by omega)
  have e : i + (j - i - 1) + 1 = j := by omega
  simp only [e] at this
  exact this
theorem Back.lt {S F : List Pt} (W : Back S F) {i j : Nat} (hij : i < j) (h : j < F.length) : plt (F[j]'h) (F[i]'(by omega)) := by
  have := W.mono (j - i - 1) i (by omega)
  have e : i + (j - i - 1) + 1 = j := by omega
  simp only [e] at this
  exact this

section
variable {S Lw U : List Pt} {m k : Nat}

theorem Two.inj (T : Two S Lw U m k) {i j : Nat} (hij : i < j) (hj : j < m + k) : (cyc Lw U)[i]? ≠ (cyc Lw U)[j]? := by
  have m1 := T.m1; have k1 := T.k1; have lm := T.lm; have lk := T.lk
  intro e
  rcases Nat.lt_or_ge j m with h | h
  · rw [T.atL h, T.atL (by omega), List.getElem?_eq_getElem (by omega), List.getElem?_eq_getElem (by omega), Option.some.injEq] at e
    have := T.way.lt hij (by omega : j < Lw.length)
    rw [e] at this
    exact plt_irrefl _ this
  · rcases Nat.lt_or_ge i m with h' | h'
    · rw [T.atU h hj, T.atL h', List.getElem?_eq_getElem (by omega), List.getElem?_eq_getElem (by omega), Option.some.injEq] at e
      have eT := T.top; have eB := T.bot
      rw [List.getElem?_eq_getElem (by omega), List.getElem?_eq_getElem (by omega), Option.some.injEq] at eT eB
      -- neither is an end
      rcases Nat.eq_zero_or_pos i with hi | hi
      · subst hi
        have := T.back.lt (by omega : j - m < k) (by omega)
        rw [← e, ← eB] at this
        exact plt_irrefl _ this
      rcases Nat.eq_zero_or_pos (j - m) with hj' | hj'
      · have := T.way.lt h' (by omega : m < Lw.length)
        simp only [hj'] at e
        rw [e, ← eT] at this
        exact plt_irrefl _ this
      have E1 := T.way.edge (i - 1) (by omega)
      have E2 := T.way.edge i (by omega)
      have E3 := T.back.edge (j - m - 1) (by omega)
      have t := T.way.turn (i - 1) (by omega)
      have a1 : i - 1 + 1 = i := by omega
      have a2 : i - 1 + 2 = i + 1 := by omega
      have a3 : j - m - 1 + 1 = j - m := by omega
      simp only [a1, a2, a3] at E1 E2 E3 t
      have sA := T.way.sub _ (List.getElem_mem (l := Lw) (n := i - 1) (by omega))
      have sC := T.back.sub _ (List.getElem_mem (l := U) (n := j - m - 1) (by omega))
      rw [← e] at E3
      generalize Lw[i - 1] = A at *; generalize Lw[i] = x at *; generalize Lw[i + 1] = B at *; generalize U[j - m - 1] = C at *
      have g3 : 0 ≤ sd C x A := by rcases E3.1 A sA with b | b <;> omega
      exact no_both E1.2 E2.2 E3.2 t (E2.1 C sC).nonneg (E1.1 C sC).nonneg g3
    · rw [T.atU h hj, T.atU h' (by omega), List.getElem?_eq_getElem (by omega), List.getElem?_eq_getElem (by omega), Option.some.injEq] at e
      have := T.back.lt (by omega : i - m < j - m) (by omega)
      rw [e] at this
      exact plt_irrefl _ this

theorem Two.sub (T : Two S Lw U m k) : ∀ p ∈ cyc Lw U, p ∈ S := by
  intro p hp
  rcases List.mem_append.1 hp with hp | hp
  · exact T.way.sub p (List.dropLast_subset _ hp)
  · exact T.back.sub p (List.dropLast_subset _ hp)
end

theorem length_le_of_nodup : ∀ (H S : List Pt), H.Nodup → (∀ p ∈ H, p ∈ S) → H.length ≤ S.length := by
  intro H
  induction H with
  | nil => intros; exact Nat.zero_le _
  | cons p H ih =>
    intro S hn hs
    have hn' := List.nodup_cons.1 hn
    have hp := hs p (by simp)
    have := ih (S.erase p) hn'.2 fun q hq => by
      have : q ≠ p := fun e => hn'.1 (e ▸ hq)
      exact (List.mem_erase_of_ne this).2 (hs q (List.mem_cons_of_mem _ hq))
    rw [List.length_erase_of_mem hp] at this
    have := List.length_pos_of_mem hp
    simp only [List.length_cons]
    omega

/-- how far beyond two points: above 0 outside, on their line -/
def dt (a b q : Pt) : Int := (q.1 - a.1) * (q.1 - b.1) + (q.2 - a.2) * (q.2 - b.2)

theorem nonpos_of_mul_sq {c x : Int} (hc : 0 < c) (h : c * c * x ≤ 0) : x ≤ 0 := by
  rcases ilt_or_ge 0 x with k | k
  · have := Int.mul_pos (Int.mul_pos hc hc) k; omega
  · exact k

theorem mul_between {a b q : Int} (h1 : a ≤ q) (h2 : q ≤ b) : (q - a) * (q - b) ≤ 0 := by
  have := Int.mul_nonneg (show 0 ≤ q - a by omega) (show 0 ≤ b - q by omega)
  have e : (q - a) * (q - b) = - ((q - a) * (b - q)) := by grind
  omega

theorem dt_between {a b q : Pt} (h0 : sd a b q = 0) (h1 : ple a q) (h2 : ple q b) : dt a b q ≤ 0 := by
  have hx1 : a.1 ≤ q.1 := by
    rcases h1 with h | h
    · unfold plt at h; omega
    · rw [h]; exact Int.le_refl _
  have hx2 : q.1 ≤ b.1 := by
    rcases h2 with h | h
    · unfold plt at h; omega
    · rw [h]; exact Int.le_refl _
  have m1 := mul_between hx1 hx2
  unfold dt
  rcases ilt_or_ge a.1 b.1 with hlt | hge
  · have e : (b.1 - a.1) * (b.1 - a.1) * ((q.2 - a.2) * (q.2 - b.2)) = (b.2 - a.2) * (b.2 - a.2) * ((q.1 - a.1) * (q.1 - b.1)) := by
      have f1 : (b.1 - a.1) * (q.2 - a.2) = (b.2 - a.2) * (q.1 - a.1) := by unfold sd at h0; omega
      have f2 : (b.1 - a.1) * (q.2 - b.2) = (b.2 - a.2) * (q.1 - b.1) := by
        have : (b.1 - a.1) * (q.2 - b.2) - (b.2 - a.2) * (q.1 - b.1) = (b.1 - a.1) * (q.2 - a.2) - (b.2 - a.2) * (q.1 - a.1) := by grind
        omega
      have : (b.1 - a.1) * (b.1 - a.1) * ((q.2 - a.2) * (q.2 - b.2)) = ((b.1 - a.1) * (q.2 - a.2)) * ((b.1 - a.1) * (q.2 - b.2)) := by grind
      rw [this, f1, f2]; grind
    have n : (b.2 - a.2) * (b.2 - a.2) * ((q.1 - a.1) * (q.1 - b.1)) ≤ 0 := by
      have s : 0 ≤ (b.2 - a.2) * (b.2 - a.2) := by
        rcases ilt_or_ge (b.2 - a.2) 0 with k | k
        · have := Int.mul_pos (show 0 < -(b.2 - a.2) by omega) (show 0 < -(b.2 - a.2) by omega)
          rw [Int.neg_mul_neg] at this; omega
        · exact Int.mul_nonneg k k
      have := Int.mul_nonneg s (show 0 ≤ -((q.1 - a.1) * (q.1 - b.1)) by omega)
      rw [Int.mul_neg] at this; omega
    have := nonpos_of_mul_sq (show 0 < b.1 - a.1 by omega) (e ▸ n)
    omega
  · have e1 : q.1 = a.1 := by omega
    have e2 : q.1 = b.1 := by omega
    have hy1 : a.2 ≤ q.2 := by
      rcases h1 with h | h
      · unfold plt at h; omega
      · rw [h]; exact Int.le_refl _
    have hy2 : q.2 ≤ b.2 := by
      rcases h2 with h | h
      · unfold plt at h; omega
      · rw [h]; exact Int.le_refl _
    have := mul_between hy1 hy2
    omega

theorem dt_comm (a b q : Pt) : dt a b q = dt b a q := by unfold dt; grind

/-- What is asked of the corners of points. -/
structure HullOk (S H : List Pt) : Prop where
  edge : 1 < H.length → ∀ i, i < H.length → ∀ q ∈ S, 0 ≤ sd (at' H i) (at' H ((i + 1) % H.length)) q ∧ (sd (at' H i) (at' H ((i + 1) % H.length)) q = 0 → dt (at' H i) (at' H ((i + 1) % H.length)) q ≤ 0)
  turn : 2 < H.length → ∀ i, i < H.length → 0 < sd (at' H i) (at' H ((i + 1) % H.length)) (at' H ((i + 2) % H.length))
  first : ∀ q ∈ S, ple (at' H 0) q
  sub : ∀ p ∈ H, p ∈ S
  le : H.length ≤ S.length
  two : 1 < S.length → 1 < H.length
  one : S ≠ [] → H ≠ []
  nodup : H.Nodup

theorem hull_ok {ps : List Pt} (h : Ordered ps) : HullOk ps (hullP ps) := by
  unfold hullP
  by_cases h2 : ps.length < 2
  · rw [if_pos h2]
    refine ⟨fun k => by omega, fun k => by omega, fun q hq => ?_, fun p hp => hp, Nat.le_refl _, fun k => k, fun k => k, ?_⟩
    · match ps, h2 with
      | [p], _ => simp at hq; subst hq; exact ple_refl _
    · match ps, h2 with
      | [], _ => exact List.nodup_nil
      | [p], _ => simp
  · rw [if_neg h2]
    obtain ⟨m, k, T⟩ := two_of h (by omega)
    have m1 := T.m1; have k1 := T.k1; have lm := T.lm; have lk := T.lk
    have L := T.len
    change HullOk ps (cyc (lowerC ps) (upperC ps))
    have nd : (cyc (lowerC ps) (upperC ps)).Nodup := by
      refine List.pairwise_iff_getElem.2 fun i j hi hj hij e => T.inj hij (by omega) ?_
      rw [List.getElem?_eq_getElem hi, List.getElem?_eq_getElem hj, e]
    refine ⟨fun _ i hi q hq => ?_, fun h3 i hi => ?_, fun q hq => ?_, T.sub, length_le_of_nodup _ _ nd T.sub, fun _ => by omega, fun _ e => by rw [e] at L; simp at L; omega, nd⟩
    · rw [L] at hi ⊢
      rcases T.edge hi hq with c | ⟨c0, c | c⟩
      · exact ⟨by omega, fun e => by omega⟩
      · exact ⟨by omega, fun e => dt_between c0 c.1 c.2⟩
      · refine ⟨by omega, fun e => ?_⟩
        rw [dt_comm]
        exact dt_between (by rw [sd_swap]; omega) c.1 c.2
    · rw [L] at hi h3 ⊢
      exact T.turn h3 hi
    · have e := T.atL (i := 0) (by omega)
      replace e := e.trans (List.getElem?_eq_getElem (by omega : 0 < (lowerC ps).length))
      rw [getD_of e]
      exact T.way.first (by omega) q hq

end Go.Proofs.YtgpapegpdfonpaaGreatDoor
