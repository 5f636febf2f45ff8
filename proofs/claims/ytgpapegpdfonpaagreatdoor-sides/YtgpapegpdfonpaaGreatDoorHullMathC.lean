/-
  The hull's corners: all points lie left of any two that follow each other, or between them; each corner lies left of the two ahead of it; none stands twice.
-/
import Derived.Test.YtgpapegpdfonpaaGreatDoorHullMathB
namespace Go.Proofs.YtgpapegpdfonpaaGreatDoor
set_option linter.unusedVariables false
set_option linter.unusedSimpArgs false

def hullP (ps : List Pt) : List Pt := if ps.length < 2 then ps else (lowerC ps).dropLast ++ (upperC ps).dropLast

theorem sd_rot (a b c : Pt) : sd b c a = sd a b c := by unfold sd; grind
theorem sd_swap (a b c : Pt) : sd b a c = - sd a b c := by unfold sd; grind

/-- The two chains of points in order, two at least. -/
structure Two (S Lw U : List Pt) (m k : Nat) : Prop where
  way : Way S Lw
  back : Back S U
  lm : Lw.length = m + 1
  lk : U.length = k + 1
  m1 : 1 ≤ m
  k1 : 1 ≤ k
  top : Lw[m]? = U[0]?
  bot : Lw[0]? = U[k]?

theorem two_of {ps : List Pt} (h : Ordered ps) (h2 : 2 ≤ ps.length) : ∃ m k, Two ps (lowerC ps) (upperC ps) m k := by
  have W := lower_ok h; have B := upper_ok h
  have hne : ps ≠ [] := by intro e; subst e; simp at h2
  have l1 : 0 < (lowerC ps).length := List.length_pos_iff.2 (W.ne hne)
  have u1 : 0 < (upperC ps).length := List.length_pos_iff.2 (B.ne hne)
  -- the least and the greatest
  have hlt : plt ps[0] ps[1] := List.pairwise_iff_getElem.1 h 0 1 (by omega) (by omega) (by omega)
  have min1 := W.first l1; have max1 := W.last (by omega); have max2 := B.first u1; have min2 := B.last (by omega)
  have eTop : (lowerC ps)[(lowerC ps).length - 1]'(by omega) = (upperC ps)[0]'u1 := ple_antisymm (max2 _ (W.sub _ (List.getElem_mem _))) (max1 _ (B.sub _ (List.getElem_mem _)))
  have eBot : (lowerC ps)[0]'l1 = (upperC ps)[(upperC ps).length - 1]'(by omega) := ple_antisymm (min1 _ (B.sub _ (List.getElem_mem _))) (min2 _ (W.sub _ (List.getElem_mem _)))
  have neq : (lowerC ps)[0]'l1 ≠ (lowerC ps)[(lowerC ps).length - 1]'(by omega) := by
    intro e
    have a1 := min1 _ (List.getElem_mem (n := 1) (l := ps) (by omega))
    have a2 := max1 _ (List.getElem_mem (n := 0) (l := ps) (by omega))
    have b1 := max1 _ (List.getElem_mem (n := 1) (l := ps) (by omega))
    have b2 := min1 _ (List.getElem_mem (n := 0) (l := ps) (by omega))
    rw [e] at a1 b2
    have e1 := ple_antisymm a1 b1
    have e2 := ple_antisymm b2 a2
    rw [← e1, ← e2] at hlt
    exact plt_irrefl _ hlt
  have lm : 2 ≤ (lowerC ps).length := by
    rcases Nat.lt_or_ge 1 (lowerC ps).length with k | k
    · exact k
    · exfalso; apply neq; congr 1; omega
  have lk : 2 ≤ (upperC ps).length := by
    rcases Nat.lt_or_ge 1 (upperC ps).length with k | k
    · exact k
    · exfalso; apply neq; rw [eBot, eTop]; congr 1; omega
  refine ⟨(lowerC ps).length - 1, (upperC ps).length - 1, W, B, by omega, by omega, by omega, by omega, ?_, ?_⟩
  · rw [List.getElem?_eq_getElem (by omega), List.getElem?_eq_getElem u1, eTop]
  · rw [List.getElem?_eq_getElem l1, List.getElem?_eq_getElem (by omega), eBot]

section
variable {S Lw U : List Pt} {m k : Nat}

def cyc (Lw U : List Pt) : List Pt := Lw.dropLast ++ U.dropLast
def at' (H : List Pt) (i : Nat) : Pt := H.getD i (0, 0)

theorem Two.len (T : Two S Lw U m k) : (cyc Lw U).length = m + k := by simp [cyc, T.lm, T.lk]

theorem Two.atL (T : Two S Lw U m k) {i : Nat} (h : i < m) : (cyc Lw U)[i]? = Lw[i]? := by
  have := T.lm
  unfold cyc
  rw [List.getElem?_append_left (by simp; omega), List.getElem?_dropLast, if_pos (by omega)]
theorem Two.atU (T : Two S Lw U m k) {i : Nat} (h : m ≤ i) (h2 : i < m + k) : (cyc Lw U)[i]? = U[i - m]? := by
  have := T.lm; have := T.lk
  unfold cyc
  rw [List.getElem?_append_right (by simp; omega)]
  simp only [List.length_dropLast, T.lm, Nat.add_sub_cancel]
  rw [List.getElem?_dropLast, if_pos (by omega)]

/-- Two corners that follow each other are two of one chain. -/
theorem Two.next (T : Two S Lw U m k) {i : Nat} (h : i < m + k) :
    (i < m ∧ (cyc Lw U)[i]? = Lw[i]? ∧ (cyc Lw U)[(i + 1) % (m + k)]? = Lw[i + 1]?) ∨ (m ≤ i ∧ (cyc Lw U)[i]? = U[i - m]? ∧ (cyc Lw U)[(i + 1) % (m + k)]? = U[i - m + 1]?) := by
  have m1 := T.m1; have k1 := T.k1
  rcases Nat.lt_or_ge i m with hi | hi
  · refine .inl ⟨hi, T.atL hi, ?_⟩
    rw [Nat.mod_eq_of_lt (by omega)]
    rcases Nat.lt_or_ge (i + 1) m with hj | hj
    · exact T.atL hj
    · have e : i + 1 = m := by omega
      rw [e, T.atU (Nat.le_refl _) (by omega), Nat.sub_self, T.top]
  · refine .inr ⟨hi, T.atU hi h, ?_⟩
    rcases Nat.lt_or_ge (i + 1) (m + k) with hj | hj
    · rw [Nat.mod_eq_of_lt hj, T.atU (by omega) hj]
      congr 1; omega
    · have e : i + 1 = m + k := by omega
      rw [e, Nat.mod_self, T.atL (by omega), T.bot]
      congr 1; omega

theorem getD_of {l : List Pt} {i : Nat} {p : Pt} (h : l[i]? = some p) : at' l i = p := by simp [at', h]

theorem Two.edge (T : Two S Lw U m k) {i : Nat} (h : i < m + k) {q : Pt} (hq : q ∈ S) :
    0 < sd (at' (cyc Lw U) i) (at' (cyc Lw U) ((i + 1) % (m + k))) q ∨ (sd (at' (cyc Lw U) i) (at' (cyc Lw U) ((i + 1) % (m + k))) q = 0 ∧
      ((ple (at' (cyc Lw U) i) q ∧ ple q (at' (cyc Lw U) ((i + 1) % (m + k)))) ∨ (ple (at' (cyc Lw U) ((i + 1) % (m + k))) q ∧ ple q (at' (cyc Lw U) i)))) := by
  have lm := T.lm; have lk := T.lk
  rcases T.next h with ⟨hi, e1, e2⟩ | ⟨hi, e1, e2⟩
  · replace e1 := e1.trans (List.getElem?_eq_getElem (by omega : i < Lw.length))
    replace e2 := e2.trans (List.getElem?_eq_getElem (by omega : i + 1 < Lw.length))
    rw [getD_of e1, getD_of e2]
    rcases (T.way.edge i (by omega)).1 q hq with c | ⟨c0, c1, c2⟩
    · exact .inl c
    · exact .inr ⟨c0, .inl ⟨c1, c2⟩⟩
  · replace e1 := e1.trans (List.getElem?_eq_getElem (by omega : i - m < U.length))
    replace e2 := e2.trans (List.getElem?_eq_getElem (by omega : i - m + 1 < U.length))
    rw [getD_of e1, getD_of e2]
    rcases (T.back.edge (i - m) (by omega)).1 q hq with c | ⟨c0, c1, c2⟩
    · exact .inl c
    · exact .inr ⟨c0, .inr ⟨c2, c1⟩⟩

/-- If the chains meet along one edge all points lie on it: there are two corners. -/
theorem Two.flat (T : Two S Lw U m k) (A M : Pt) (h : ∀ q ∈ S, sd A M q = 0) (hA : A ∈ S) (hM : M ∈ S) (hne : plt A M ∨ plt M A) : m = 1 ∧ k = 1 := by
  have m1 := T.m1; have k1 := T.k1; have lm := T.lm; have lk := T.lk
  -- three points on a line through A and M are on one line
  have flat3 : ∀ p ∈ S, ∀ q ∈ S, ∀ r ∈ S, sd p q r = 0 := by
    intro p hp q hq r hr
    have e1 := h p hp; have e2 := h q hq; have e3 := h r hr
    unfold sd at *
    have key : ∀ dx dy : Int, (dx ≠ 0 ∨ dy ≠ 0) → ∀ ux uy vx vy : Int, dx * uy - dy * ux = 0 → dx * vy - dy * vx = 0 → ux * vy - uy * vx = 0 := by
      intro dx dy hd ux uy vx vy a b
      rcases hd with hd | hd
      · have : dx * (ux * vy - uy * vx) = ux * (dx * vy - dy * vx) - vx * (dx * uy - dy * ux) := by grind
        rw [a, b, Int.mul_zero, Int.mul_zero, Int.sub_zero] at this
        rcases Int.mul_eq_zero.1 this with h | h
        · exact absurd h hd
        · exact h
      · have : dy * (ux * vy - uy * vx) = uy * (dx * vy - dy * vx) - vy * (dx * uy - dy * ux) := by grind
        rw [a, b, Int.mul_zero, Int.mul_zero, Int.sub_zero] at this
        rcases Int.mul_eq_zero.1 this with h | h
        · exact absurd h hd
        · exact h
    refine key (M.1 - A.1) (M.2 - A.2) (by rcases hne with k | k <;> unfold plt at k <;> omega) (q.1 - p.1) (q.2 - p.2) (r.1 - p.1) (r.2 - p.2) ?_ ?_
    · have : (M.1 - A.1) * (q.2 - p.2) - (M.2 - A.2) * (q.1 - p.1) = ((M.1 - A.1) * (q.2 - A.2) - (M.2 - A.2) * (q.1 - A.1)) - ((M.1 - A.1) * (p.2 - A.2) - (M.2 - A.2) * (p.1 - A.1)) := by grind
      omega
    · have : (M.1 - A.1) * (r.2 - p.2) - (M.2 - A.2) * (r.1 - p.1) = ((M.1 - A.1) * (r.2 - A.2) - (M.2 - A.2) * (r.1 - A.1)) - ((M.1 - A.1) * (p.2 - A.2) - (M.2 - A.2) * (p.1 - A.1)) := by grind
      omega
  constructor
  · rcases Nat.lt_or_ge 1 m with c | c
    · exfalso
      have t := T.way.turn 0 (by omega)
      have := flat3 _ (T.way.sub _ (List.getElem_mem (n := 0) (by omega))) _ (T.way.sub _ (List.getElem_mem (n := 0 + 1) (by omega))) _ (T.way.sub _ (List.getElem_mem (n := 0 + 2) (by omega)))
      omega
    · omega
  · rcases Nat.lt_or_ge 1 k with c | c
    · exfalso
      have t := T.back.turn 0 (by omega)
      have := flat3 _ (T.back.sub _ (List.getElem_mem (n := 0) (by omega))) _ (T.back.sub _ (List.getElem_mem (n := 0 + 1) (by omega))) _ (T.back.sub _ (List.getElem_mem (n := 0 + 2) (by omega)))
      omega
    · omega

/-- where the lower chain ends and the upper begins -/
theorem Two.joinTop (T : Two S Lw U m k) (h2 : 2 < m + k) (hl : m < Lw.length) (hu : 1 < U.length) : 0 < sd (Lw[m - 1]'(by omega)) (Lw[m]'hl) (U[1]'hu) := by
  have m1 := T.m1; have k1 := T.k1; have lm := T.lm; have lk := T.lk
  have eT := T.top
  rw [List.getElem?_eq_getElem (by omega), List.getElem?_eq_getElem (by omega), Option.some.injEq] at eT
  have hA := T.way.sub _ (List.getElem_mem (l := Lw) (n := m - 1) (by omega))
  have hM := T.way.sub _ (List.getElem_mem (l := Lw) (n := m) (by omega))
  have hB := T.back.sub _ (List.getElem_mem (l := U) (n := 1) (by omega))
  have E := T.way.edge (m - 1) (by omega)
  have e : m - 1 + 1 = m := by omega
  simp only [e] at E
  have F := T.back.edge 0 (by omega)
  simp only [Nat.zero_add] at F
  rw [← eT] at F
  generalize Lw[m - 1] = A at *; generalize Lw[m] = M at *; generalize U[1] = B at *
  rcases E.1 B hB with c | ⟨c0, c1, c2⟩
  · exact c
  · exfalso
    rcases F.1 A hA with d | ⟨d0, d1, d2⟩
    · rw [sd_rot] at d; omega
    · have eq := ple_antisymm c1 d2
      subst eq
      have all : ∀ q ∈ S, sd A M q = 0 := fun q hq => by
        have a := (E.1 q hq).nonneg
        have b := F.1 q hq
        rw [sd_swap] at b
        rcases b with b | b <;> omega
      have := T.flat A M all hA hM (.inl E.2)
      omega

/-- where the upper chain ends and the lower begins -/
theorem Two.joinBot (T : Two S Lw U m k) (h2 : 2 < m + k) (hu : k < U.length) (hl : 1 < Lw.length) : 0 < sd (U[k - 1]'(by omega)) (U[k]'hu) (Lw[1]'hl) := by
  have m1 := T.m1; have k1 := T.k1; have lm := T.lm; have lk := T.lk
  have eT := T.bot
  rw [List.getElem?_eq_getElem (by omega), List.getElem?_eq_getElem (by omega), Option.some.injEq] at eT
  have hA := T.back.sub _ (List.getElem_mem (l := U) (n := k - 1) (by omega))
  have hM := T.back.sub _ (List.getElem_mem (l := U) (n := k) (by omega))
  have hB := T.way.sub _ (List.getElem_mem (l := Lw) (n := 1) (by omega))
  have E := T.back.edge (k - 1) (by omega)
  have e : k - 1 + 1 = k := by omega
  simp only [e] at E
  have F := T.way.edge 0 (by omega)
  simp only [Nat.zero_add] at F
  rw [eT] at F
  generalize U[k - 1] = A at *; generalize U[k] = M at *; generalize Lw[1] = B at *
  rcases E.1 B hB with c | ⟨c0, c1, c2⟩
  · exact c
  · exfalso
    rcases F.1 A hA with d | ⟨d0, d1, d2⟩
    · rw [sd_rot] at d; omega
    · have eq := ple_antisymm c1 d2
      subst eq
      have all : ∀ q ∈ S, sd M B q = 0 := fun q hq => by
        have a := (F.1 q hq).nonneg
        have b := E.1 q hq
        rw [sd_swap] at b
        rcases b with b | b <;> omega
      have := T.flat M B all hM hB (.inl F.2)
      omega

theorem Two.turn (T : Two S Lw U m k) (h2 : 2 < m + k) {i : Nat} (h : i < m + k) :
    0 < sd (at' (cyc Lw U) i) (at' (cyc Lw U) ((i + 1) % (m + k))) (at' (cyc Lw U) ((i + 2) % (m + k))) := by
  have m1 := T.m1; have k1 := T.k1; have lm := T.lm; have lk := T.lk
  have hj : (i + 1) % (m + k) < m + k := Nat.mod_lt _ (by omega)
  have e3 : (i + 2) % (m + k) = ((i + 1) % (m + k) + 1) % (m + k) := by rw [Nat.mod_add_mod]
  have N2 := T.next hj
  rw [← e3] at N2
  rcases T.next h with ⟨hi, e1, e2⟩ | ⟨hi, e1, e2⟩
  · replace e1 := e1.trans (List.getElem?_eq_getElem (by omega : i < Lw.length))
    replace e2 := e2.trans (List.getElem?_eq_getElem (by omega : i + 1 < Lw.length))
    rw [getD_of e1, getD_of e2]
    have ej : (i + 1) % (m + k) = i + 1 := Nat.mod_eq_of_lt (by omega)
    rw [ej] at N2
    rcases N2 with ⟨hi2, _, f2⟩ | ⟨hi2, _, f2⟩
    · replace f2 := f2.trans (List.getElem?_eq_getElem (by omega : i + 1 + 1 < Lw.length))
      rw [getD_of f2]
      exact T.way.turn i (by omega)
    · have em : i + 1 = m := by omega
      have f3 := f2.trans (List.getElem?_eq_getElem (by omega : i + 1 - m + 1 < U.length))
      rw [getD_of f3]
      have J := T.joinTop h2 (by omega) (by omega)
      have a1 : m - 1 = i := by omega
      have a2 : i + 1 - m + 1 = 1 := by omega
      simp only [em, Nat.sub_self, Nat.zero_add, a1] at J ⊢
      exact J
  · replace e1 := e1.trans (List.getElem?_eq_getElem (by omega : i - m < U.length))
    replace e2 := e2.trans (List.getElem?_eq_getElem (by omega : i - m + 1 < U.length))
    rw [getD_of e1, getD_of e2]
    rcases Nat.lt_or_ge (i + 1) (m + k) with hj' | hj'
    · have ej : (i + 1) % (m + k) = i + 1 := Nat.mod_eq_of_lt hj'
      rw [ej] at N2
      rcases N2 with ⟨hi2, _, f2⟩ | ⟨hi2, _, f2⟩
      · omega
      · replace f2 := f2.trans (List.getElem?_eq_getElem (by omega : i + 1 - m + 1 < U.length))
        rw [getD_of f2]
        have J := T.back.turn (i - m) (by omega)
        have a2 : i + 1 - m + 1 = i - m + 2 := by omega
        simp only [a2]
        exact J
    · have ei : i = m + k - 1 := by omega
      have ej : (i + 1) % (m + k) = 0 := by rw [show i + 1 = m + k by omega, Nat.mod_self]
      rw [ej] at N2
      rcases N2 with ⟨hi2, _, f2⟩ | ⟨hi2, _, f2⟩
      · replace f2 := f2.trans (List.getElem?_eq_getElem (by omega : 0 + 1 < Lw.length))
        rw [getD_of f2]
        have J := T.joinBot h2 (by omega) (by omega)
        have a1 : i - m = k - 1 := by omega
        have a2 : k - 1 + 1 = k := by omega
        simp only [a1, a2, Nat.zero_add]
        exact J
      · omega

end
end Go.Proofs.YtgpapegpdfonpaaGreatDoor
