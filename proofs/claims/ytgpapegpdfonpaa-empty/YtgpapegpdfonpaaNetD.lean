/-
  Points of the plane, lifted, and one beyond the boundary on every side: the first net.
-/
import Derived.Test.YtgpapegpdfonpaaNetC
import Derived.Test.YtgpapegpdfonpaaHullAll
namespace Go.Proofs.Ytgpapegpdfonpaa
set_option linter.unusedVariables false
set_option linter.unusedSimpArgs false

def lift (q : Pt) : Vec := ⟨q.1, q.2, 1, q.1 * q.1 + q.2 * q.2⟩
def BIG : Int := 100000000000000000000
def apex (a b c : Pt) : Vec := ⟨-(a.1 + b.1 + c.1), -(a.2 + b.2 + c.2), -3, BIG - ((a.1 * a.1 + a.2 * a.2) + (b.1 * b.1 + b.2 * b.2) + (c.1 * c.1 + c.2 * c.2))⟩
def VV (P : Int → Pt) (a b c : Int) (i : Int) : Vec := if i < 0 then apex (P a) (P b) (P c) else lift (P i)
theorem VV_neg (P : Int → Pt) (a b c : Int) : VV P a b c (-1) = apex (P a) (P b) (P c) := rfl
theorem VV_pos (P : Int → Pt) (a b c : Int) {i : Int} (h : 0 ≤ i) : VV P a b c i = lift (P i) := by unfold VV; rw [if_neg (by omega)]

/-- within the circle -/
def cc (a b c d : Pt) : Int :=
  ((a.1 - d.1) * (a.1 - d.1) + (a.2 - d.2) * (a.2 - d.2)) * ((b.1 - d.1) * (c.2 - d.2) - (b.2 - d.2) * (c.1 - d.1)) +
  ((b.1 - d.1) * (b.1 - d.1) + (b.2 - d.2) * (b.2 - d.2)) * ((c.1 - d.1) * (a.2 - d.2) - (c.2 - d.2) * (a.1 - d.1)) +
  ((c.1 - d.1) * (c.1 - d.1) + (c.2 - d.2) * (c.2 - d.2)) * ((a.1 - d.1) * (b.2 - d.2) - (a.2 - d.2) * (b.1 - d.1))

theorem d3_lift (a b c : Pt) : d3 (lift a) (lift b) (lift c) = sd a b c := by unfold d3 lift sd; grind
theorem kk_lift (a b c d : Pt) : kk (lift a) (lift b) (lift c) (lift d) = cc a b c d := by unfold kk d3 lift cc; grind
theorem d3_apex (u v a b c : Pt) : d3 (lift u) (lift v) (apex a b c) = -(sd u v a + sd u v b + sd u v c) := by unfold d3 lift apex sd; grind
theorem cc_line (u v x q : Pt) : cc u v x q = -(sd u v x) * dt u v q + sd u v q * dt u v x := by unfold cc sd dt; grind
theorem kk_last (a b c p : Vec) : kk a b p c = - kk a b c p := by unfold kk d3; grind
theorem kk_swap (a b c p : Vec) : kk b a c p = - kk a b c p := by unfold kk d3; grind
theorem kk_apex (u v a b c q : Pt) : kk (lift u) (lift v) (apex a b c) (lift q) = BIG * sd u v q - (cc u v a q + cc u v b q + cc u v c q) := by
  rw [← kk_lift, ← kk_lift, ← kk_lift]
  unfold kk d3 lift apex sd
  grind

def NearP (q : Pt) : Prop := -8000 ≤ q.1 ∧ q.1 ≤ 8000 ∧ -8000 ≤ q.2 ∧ q.2 ≤ 8000

theorem abs_mul_le {a b A B : Int} (h1 : -A ≤ a) (h2 : a ≤ A) (h3 : -B ≤ b) (h4 : b ≤ B) : -(A * B) ≤ a * b ∧ a * b ≤ A * B := by
  have hA : 0 ≤ A := by omega
  have hB : 0 ≤ B := by omega
  have k1 : 0 ≤ (A - a) * (B - b) := mnn (by omega) (by omega)
  have k2 : 0 ≤ (A + a) * (B + b) := mnn (by omega) (by omega)
  have k3 : 0 ≤ (A - a) * (B + b) := mnn (by omega) (by omega)
  have k4 : 0 ≤ (A + a) * (B - b) := mnn (by omega) (by omega)
  constructor <;> grind

theorem diff_le {a d : Int} (h : -8000 ≤ a ∧ a ≤ 8000) (k : -8000 ≤ d ∧ d ≤ 8000) : -16000 ≤ a - d ∧ a - d ≤ 16000 := by omega

theorem cc_le {a b c d : Pt} (ha : NearP a) (hb : NearP b) (hc : NearP c) (hd : NearP d) : -1000000000000000000 ≤ cc a b c d ∧ cc a b c d ≤ 1000000000000000000 := by
  obtain ⟨a1, a2, a3, a4⟩ := ha
  obtain ⟨b1, b2, b3, b4⟩ := hb
  obtain ⟨c1, c2, c3, c4⟩ := hc
  obtain ⟨e1, e2, e3, e4⟩ := hd
  unfold cc
  have x1 := diff_le ⟨a1, a2⟩ ⟨e1, e2⟩
  have x2 := diff_le ⟨a3, a4⟩ ⟨e3, e4⟩
  have y1 := diff_le ⟨b1, b2⟩ ⟨e1, e2⟩
  have y2 := diff_le ⟨b3, b4⟩ ⟨e3, e4⟩
  have z1 := diff_le ⟨c1, c2⟩ ⟨e1, e2⟩
  have z2 := diff_le ⟨c3, c4⟩ ⟨e3, e4⟩
  generalize a.1 - d.1 = ax at *
  generalize a.2 - d.2 = ay at *
  generalize b.1 - d.1 = bx at *
  generalize b.2 - d.2 = b_y at *
  generalize c.1 - d.1 = cx at *
  generalize c.2 - d.2 = cy at *
  have p1 := abs_mul_le x1.1 x1.2 x1.1 x1.2
  have p2 := abs_mul_le x2.1 x2.2 x2.1 x2.2
  have p3 := abs_mul_le y1.1 y1.2 y1.1 y1.2
  have p4 := abs_mul_le y2.1 y2.2 y2.1 y2.2
  have p5 := abs_mul_le z1.1 z1.2 z1.1 z1.2
  have p6 := abs_mul_le z2.1 z2.2 z2.1 z2.2
  have q1 := abs_mul_le y1.1 y1.2 z2.1 z2.2
  have q2 := abs_mul_le y2.1 y2.2 z1.1 z1.2
  have q3 := abs_mul_le z1.1 z1.2 x2.1 x2.2
  have q4 := abs_mul_le z2.1 z2.2 x1.1 x1.2
  have q5 := abs_mul_le x1.1 x1.2 y2.1 y2.2
  have q6 := abs_mul_le x2.1 x2.2 y1.1 y1.2
  have t1 := abs_mul_le (A := 512000000) (B := 512000000) (a := ax * ax + ay * ay) (b := bx * cy - b_y * cx) (by omega) (by omega) (by omega) (by omega)
  have t2 := abs_mul_le (A := 512000000) (B := 512000000) (a := bx * bx + b_y * b_y) (b := cx * ay - cy * ax) (by omega) (by omega) (by omega) (by omega)
  have t3 := abs_mul_le (A := 512000000) (B := 512000000) (a := cx * cx + cy * cy) (b := ax * b_y - ay * bx) (by omega) (by omega) (by omega) (by omega)
  omega

/-- a point beyond, seen from an edge: by its side; on its line by what lies between -/
theorem ghost_sign {u v a b c q : Pt} (hu : NearP u) (hv : NearP v) (ha : NearP a) (hb : NearP b) (hc : NearP c) (hq : NearP q) :
    (0 < sd u v q → 0 < kk (lift u) (lift v) (apex a b c) (lift q)) ∧ (sd u v q < 0 → kk (lift u) (lift v) (apex a b c) (lift q) < 0) ∧
    (sd u v q = 0 → kk (lift u) (lift v) (apex a b c) (lift q) = - (d3 (lift u) (lift v) (apex a b c) * dt u v q)) := by
  rw [kk_apex, d3_apex]
  have h1 := cc_le hu hv ha hq
  have h2 := cc_le hu hv hb hq
  have h3 := cc_le hu hv hc hq
  refine ⟨fun h => ?_, fun h => ?_, fun h => ?_⟩
  · unfold BIG; omega
  · unfold BIG; omega
  · rw [cc_line u v a q, cc_line u v b q, cc_line u v c q, h]; grind

theorem sq_pos' {x : Int} (h : x ≠ 0) : 0 < x * x := by
  rcases Int.lt_or_le 0 x with k | k
  · exact mpp k k
  · exact mmm (by omega) (by omega)
theorem sq_nn (x : Int) : 0 ≤ x * x := by
  rcases Int.le_total 0 x with k | k
  · exact mnn k k
  · exact mqq k k

theorem sep_VV {P : Int → Pt} {a b c : Int} {us : List Int} (ha : NearP (P a)) (hb : NearP (P b)) (hc : NearP (P c)) (hu : ∀ i ∈ us, i = -1 ∨ (0 ≤ i ∧ NearP (P i)))
    (hinj : ∀ i ∈ us, ∀ j ∈ us, 0 ≤ i → 0 ≤ j → P i = P j → i = j) : Sep (VV P a b c) us := by
  have dist : ∀ u v : Pt, NearP u → NearP v → (u.1 - v.1) * (u.1 - v.1) + (u.2 - v.2) * (u.2 - v.2) ≤ 512000000 := by
    intro u v hu hv
    obtain ⟨a1, a2, a3, a4⟩ := hu
    obtain ⟨b1, b2, b3, b4⟩ := hv
    have x := diff_le ⟨a1, a2⟩ ⟨b1, b2⟩
    have y := diff_le ⟨a3, a4⟩ ⟨b3, b4⟩
    have p1 := abs_mul_le x.1 x.2 x.1 x.2
    have p2 := abs_mul_le y.1 y.2 y.1 y.2
    omega
  have z0 : NearP (0, 0) := by unfold NearP; omega
  have na := dist _ _ ha z0
  have nb := dist _ _ hb z0
  have nc := dist _ _ hc z0
  simp only [Int.sub_zero] at na nb nc
  intro i hi
  rcases hu i hi with rfl | ⟨h0, hn⟩
  · rw [VV_neg]
    refine ⟨by unfold apex; dsimp only; omega, ⟨0, 0, BIG - (((P a).1 * (P a).1 + (P a).2 * (P a).2) + ((P b).1 * (P b).1 + (P b).2 * (P b).2) + ((P c).1 * (P c).1 + (P c).2 * (P c).2)), 3⟩, by dsimp only; omega, by unfold dot apex; dsimp only; grind, ?_⟩
    intro j hj hne
    rcases hu j hj with rfl | ⟨h1, hn1⟩
    · exact absurd rfl hne
    · rw [VV_pos _ _ _ _ h1]
      unfold dot lift BIG
      dsimp only
      have := sq_nn (P j).1
      have := sq_nn (P j).2
      omega
  · rw [VV_pos _ _ _ _ h0]
    refine ⟨by unfold lift; dsimp only; omega, ⟨-(2 * (P i).1), -(2 * (P i).2), (P i).1 * (P i).1 + (P i).2 * (P i).2, 1⟩, by dsimp only; omega, by unfold dot lift; dsimp only; grind, ?_⟩
    intro j hj hne
    rcases hu j hj with rfl | ⟨h1, hn1⟩
    · rw [VV_neg]
      have d1 := dist _ _ ha hn
      have d2 := dist _ _ hb hn
      have d3 := dist _ _ hc hn
      have e : dot ⟨-(2 * (P i).1), -(2 * (P i).2), (P i).1 * (P i).1 + (P i).2 * (P i).2, 1⟩ (apex (P a) (P b) (P c)) = BIG - (((P a).1 - (P i).1) * ((P a).1 - (P i).1) + ((P a).2 - (P i).2) * ((P a).2 - (P i).2)) - (((P b).1 - (P i).1) * ((P b).1 - (P i).1) + ((P b).2 - (P i).2) * ((P b).2 - (P i).2)) - (((P c).1 - (P i).1) * ((P c).1 - (P i).1) + ((P c).2 - (P i).2) * ((P c).2 - (P i).2)) := by
        unfold dot apex; dsimp only; grind
      rw [e]
      unfold BIG
      omega
    · rw [VV_pos _ _ _ _ h1]
      have e : dot ⟨-(2 * (P i).1), -(2 * (P i).2), (P i).1 * (P i).1 + (P i).2 * (P i).2, 1⟩ (lift (P j)) = ((P j).1 - (P i).1) * ((P j).1 - (P i).1) + ((P j).2 - (P i).2) * ((P j).2 - (P i).2) := by
        unfold dot lift; dsimp only; grind
      rw [e]
      have s1 := sq_nn ((P j).1 - (P i).1)
      have s2 := sq_nn ((P j).2 - (P i).2)
      by_cases e1 : (P j).1 = (P i).1
      · have e2 : (P j).2 ≠ (P i).2 := fun e2 => hne (hinj j hj i hi h1 h0 (Prod.ext e1 e2))
        have := sq_pos' (show (P j).2 - (P i).2 ≠ 0 by omega)
        omega
      · have := sq_pos' (show (P j).1 - (P i).1 ≠ 0 by omega)
        omega

/-- a triangle and all its turns -/
def rots (a b c x y z : Int) : Prop := (x = a ∧ y = b ∧ z = c) ∨ (x = b ∧ y = c ∧ z = a) ∨ (x = c ∧ y = a ∧ z = b)
def firstTr (a b c x y z : Int) : Prop := rots a b c x y z ∨ rots b a (-1) x y z ∨ rots c b (-1) x y z ∨ rots a c (-1) x y z

theorem first_rot {a b c x y z : Int} (h : firstTr a b c x y z) : firstTr a b c y z x := by
  unfold firstTr rots at h
  rcases h with (⟨rfl, rfl, rfl⟩ | ⟨rfl, rfl, rfl⟩ | ⟨rfl, rfl, rfl⟩) | (⟨rfl, rfl, rfl⟩ | ⟨rfl, rfl, rfl⟩ | ⟨rfl, rfl, rfl⟩) | (⟨rfl, rfl, rfl⟩ | ⟨rfl, rfl, rfl⟩ | ⟨rfl, rfl, rfl⟩) | (⟨rfl, rfl, rfl⟩ | ⟨rfl, rfl, rfl⟩ | ⟨rfl, rfl, rfl⟩) <;> simp [firstTr, rots]
theorem first_pair {a b c x y z : Int} (h : firstTr a b c x y z) : ∃ w, firstTr a b c y x w := by
  unfold firstTr rots at h
  rcases h with (⟨rfl, rfl, rfl⟩ | ⟨rfl, rfl, rfl⟩ | ⟨rfl, rfl, rfl⟩) | (⟨rfl, rfl, rfl⟩ | ⟨rfl, rfl, rfl⟩ | ⟨rfl, rfl, rfl⟩) | (⟨rfl, rfl, rfl⟩ | ⟨rfl, rfl, rfl⟩ | ⟨rfl, rfl, rfl⟩) | (⟨rfl, rfl, rfl⟩ | ⟨rfl, rfl, rfl⟩ | ⟨rfl, rfl, rfl⟩)
  · exact ⟨-1, by simp [firstTr, rots]⟩
  · exact ⟨-1, by simp [firstTr, rots]⟩
  · exact ⟨-1, by simp [firstTr, rots]⟩
  · exact ⟨c, by simp [firstTr, rots]⟩
  · exact ⟨c, by simp [firstTr, rots]⟩
  · exact ⟨c, by simp [firstTr, rots]⟩
  · exact ⟨a, by simp [firstTr, rots]⟩
  · exact ⟨a, by simp [firstTr, rots]⟩
  · exact ⟨a, by simp [firstTr, rots]⟩
  · exact ⟨b, by simp [firstTr, rots]⟩
  · exact ⟨b, by simp [firstTr, rots]⟩
  · exact ⟨b, by simp [firstTr, rots]⟩

theorem four {a b c d : Vec} (hx : a.x + b.x + c.x + d.x = 0) (hy : a.y + b.y + c.y + d.y = 0) (hw : a.w + b.w + c.w + d.w = 0) : d3 a b d = - d3 a c d := by
  have e1 : b.x = -(a.x + c.x + d.x) := by omega
  have e2 : b.y = -(a.y + c.y + d.y) := by omega
  have e3 : b.w = -(a.w + c.w + d.w) := by omega
  unfold d3
  rw [e1, e2, e3]
  grind

set_option maxHeartbeats 2000000 in
theorem first_net {P : Int → Pt} {a b c : Int} (ha : 0 ≤ a) (hb : 0 ≤ b) (hc : 0 ≤ c) (hs : 0 < sd (P a) (P b) (P c)) (na : NearP (P a)) (nb : NearP (P b)) (nc : NearP (P c)) :
    Net (VV P a b c) [-1, a, b, c] (firstTr a b c) := by
  have hab : a ≠ b := by intro e; subst e; unfold sd at hs; grind
  have hac : a ≠ c := by intro e; subst e; unfold sd at hs; grind
  have hbc : b ≠ c := by intro e; subst e; unfold sd at hs; grind
  generalize hA : VV P a b c a = A
  generalize hB : VV P a b c b = B
  generalize hC : VV P a b c c = C
  generalize hO : VV P a b c (-1) = O
  have lA : A = lift (P a) := by rw [← hA, VV_pos _ _ _ _ ha]
  have lB : B = lift (P b) := by rw [← hB, VV_pos _ _ _ _ hb]
  have lC : C = lift (P c) := by rw [← hC, VV_pos _ _ _ _ hc]
  have lO : O = apex (P a) (P b) (P c) := by rw [← hO, VV_neg]
  have sx : A.x + B.x + C.x + O.x = 0 := by rw [lA, lB, lC, lO]; unfold lift apex; dsimp only; omega
  have sy : A.y + B.y + C.y + O.y = 0 := by rw [lA, lB, lC, lO]; unfold lift apex; dsimp only; omega
  have sw : A.w + B.w + C.w + O.w = 0 := by rw [lA, lB, lC, lO]; unfold lift apex; dsimp only; omega
  have hD : 0 < d3 A B C := by rw [lA, lB, lC, d3_lift]; exact hs
  have hK : kk A B C O < 0 := by
    have : kk A B C O = - (BIG * sd (P a) (P b) (P c)) := by
      have := kk_apex (P a) (P b) (P a) (P b) (P c) (P c)
      rw [kk_last, ← lA, ← lB, ← lC, ← lO] at this
      have e1 : cc (P a) (P b) (P a) (P c) = 0 := by unfold cc; grind
      have e2 : cc (P a) (P b) (P b) (P c) = 0 := by unfold cc; grind
      have e3 : cc (P a) (P b) (P c) (P c) = 0 := by unfold cc; grind
      rw [e1, e2, e3] at this
      omega
    rw [this]; unfold BIG; omega
  have d1 : d3 B A O = d3 A B C := by
    have := four (a := B) (b := C) (c := A) (d := O) (by omega) (by omega) (by omega)
    have h2 := four (a := C) (b := O) (c := A) (d := B) (by omega) (by omega) (by omega)
    have h3 := d3_rot B C O; have h4 := d3_rot C O B; have h5 := d3_rot C A B; have h6 := d3_rot A B C
    have h7 := d3_rot O B C
    omega
  have d2 : d3 C B O = d3 A B C := by
    have h1 := four (a := B) (b := C) (c := A) (d := O) (by omega) (by omega) (by omega)
    have h2 := d3_swap B C O
    omega
  have d3' : d3 A C O = d3 A B C := by
    have h1 := four (a := A) (b := C) (c := B) (d := O) (by omega) (by omega) (by omega)
    have h2 := d3_swap A B O
    omega
  have k1 : kk B A O C = kk A B C O := by rw [kk_last, kk_swap]; omega
  have k2 : kk C B O A = kk A B C O := by rw [kk_last, kk_swap, kk_rot]; omega
  have k3 : kk A C O B = kk A B C O := by rw [kk_last, kk_swap, ← kk_rot, ← kk_rot]; omega
  have hmem : ∀ {x y z}, firstTr a b c x y z → (x = -1 ∨ x = a ∨ x = b ∨ x = c) ∧ (y = -1 ∨ y = a ∨ y = b ∨ y = c) ∧ x ≠ y := by
    intro x y z h; unfold firstTr rots at h; omega
  refine { rot := ?_, pair := ?_, mem := ?_, pos := ?_, fn := ?_, out := ?_, ncr := ?_, ne := ?_ }
  · intro x y z h; exact first_rot h
  · intro x y z h; exact first_pair h
  · intro x y z h; have := (hmem h).1; simp; omega
  · have key : ∀ {u v w x y z}, rots u v w x y z → 0 < d3 (VV P a b c u) (VV P a b c v) (VV P a b c w) → 0 < d3 (VV P a b c x) (VV P a b c y) (VV P a b c z) := by
      rintro u v w x y z (⟨rfl, rfl, rfl⟩ | ⟨rfl, rfl, rfl⟩ | ⟨rfl, rfl, rfl⟩) h
      · exact h
      · rw [d3_rot]; exact h
      · rw [← d3_rot]; exact h
    rintro x y z (h | h | h | h)
    · exact key h (by rw [hA, hB, hC]; exact hD)
    · exact key h (by rw [hA, hB, hO, d1]; exact hD)
    · exact key h (by rw [hC, hB, hO, d2]; exact hD)
    · exact key h (by rw [hA, hC, hO, d3']; exact hD)
  · intro x y z w h h'
    unfold firstTr rots at h h'
    rcases h with (⟨h1, h2, h3⟩ | ⟨h1, h2, h3⟩ | ⟨h1, h2, h3⟩) | (⟨h1, h2, h3⟩ | ⟨h1, h2, h3⟩ | ⟨h1, h2, h3⟩) | (⟨h1, h2, h3⟩ | ⟨h1, h2, h3⟩ | ⟨h1, h2, h3⟩) | (⟨h1, h2, h3⟩ | ⟨h1, h2, h3⟩ | ⟨h1, h2, h3⟩) <;> omega
  · have key : ∀ {u v w x y z q}, rots u v w x y z → kk (VV P a b c u) (VV P a b c v) (VV P a b c w) q ≤ 0 → kk (VV P a b c x) (VV P a b c y) (VV P a b c z) q ≤ 0 := by
      rintro u v w x y z q (⟨rfl, rfl, rfl⟩ | ⟨rfl, rfl, rfl⟩ | ⟨rfl, rfl, rfl⟩) h
      · exact h
      · rw [kk_rot]; exact h
      · rw [← kk_rot]; exact h
    have hle := Int.le_of_lt hK
    intro x y z h q hq
    have hq' : q = -1 ∨ q = a ∨ q = b ∨ q = c := by simpa using hq
    rcases h with h | h | h | h <;> refine key h ?_ <;> rcases hq' with rfl | rfl | rfl | rfl <;>
      simp only [hA, hB, hC, hO, kk_a, kk_b, kk_c, k1, k2, k3] <;> omega
  · intro x y z u v w h h' hc
    obtain ⟨hx, hy, hxy⟩ := hmem h
    obtain ⟨hu, hv, huv⟩ := hmem h'
    have nxu : x ≠ u := by intro e; subst e; have := hc.2.1; rw [d3_aab] at this; omega
    have nxv : x ≠ v := by intro e; subst e; have := hc.2.1; rw [d3_aba] at this; omega
    have nyu : y ≠ u := by intro e; subst e; have := hc.1; rw [d3_aab] at this; omega
    have nyv : y ≠ v := by intro e; subst e; have := hc.1; rw [d3_aba] at this; omega
    have : d3 (VV P a b c x) (VV P a b c y) (VV P a b c v) = - d3 (VV P a b c x) (VV P a b c u) (VV P a b c v) := by
      rcases hx with rfl | rfl | rfl | rfl <;> rcases hy with rfl | rfl | rfl | rfl <;> (try (exact absurd rfl hxy)) <;>
      rcases hu with rfl | rfl | rfl | rfl <;> (try (exact absurd rfl nxu)) <;> (try (exact absurd rfl nyu)) <;>
      rcases hv with rfl | rfl | rfl | rfl <;> (try (exact absurd rfl nxv)) <;> (try (exact absurd rfl nyv)) <;> (try (exact absurd rfl huv)) <;>
      (simp only [hA, hB, hC, hO]; apply four <;> omega)
    have := hc.2.1; have := hc.2.2.1; omega
  · exact ⟨a, b, c, .inl (.inl ⟨rfl, rfl, rfl⟩)⟩
end Go.Proofs.Ytgpapegpdfonpaa
