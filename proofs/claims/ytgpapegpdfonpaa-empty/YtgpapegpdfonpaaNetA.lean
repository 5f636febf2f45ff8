/-
  Triangles between points, lifted: vectors of a plane with a height, and how they lie to each other.
-/
import Derived.KernelRfl
namespace Go.Proofs.Ytgpapegpdfonpaa
set_option linter.unusedVariables false
set_option linter.unusedSimpArgs false

/-- a point by its place (x, y), its weight and its height -/
structure Vec where
  x : Int
  y : Int
  w : Int
  z : Int

def d3 (a b c : Vec) : Int := a.x * (b.y * c.w - b.w * c.y) - a.y * (b.x * c.w - b.w * c.x) + a.w * (b.x * c.y - b.y * c.x)
def dot (l v : Vec) : Int := l.x * v.x + l.y * v.y + l.w * v.w + l.z * v.z
/-- how far p lies below the plane through a, b, c -/
def kk (a b c p : Vec) : Int := a.z * d3 b c p + b.z * d3 c a p + c.z * d3 a b p - d3 a b c * p.z
/-- the same as something that is asked of p -/
def kf (a b c : Vec) : Vec where
  x := a.z * (b.y * c.w - b.w * c.y) + b.z * (c.y * a.w - c.w * a.y) + c.z * (a.y * b.w - a.w * b.y)
  y := -(a.z * (b.x * c.w - b.w * c.x) + b.z * (c.x * a.w - c.w * a.x) + c.z * (a.x * b.w - a.w * b.x))
  w := a.z * (b.x * c.y - b.y * c.x) + b.z * (c.x * a.y - c.y * a.x) + c.z * (a.x * b.y - a.y * b.x)
  z := - d3 a b c

theorem dot_kf (a b c p : Vec) : dot (kf a b c) p = kk a b c p := by unfold dot kf kk d3; grind
theorem kf_z (a b c : Vec) : (kf a b c).z = - d3 a b c := rfl
theorem d3_rot (a b c : Vec) : d3 b c a = d3 a b c := by unfold d3; grind
theorem d3_swap (a b c : Vec) : d3 b a c = - d3 a b c := by unfold d3; grind
theorem d3_swap2 (a b c : Vec) : d3 a c b = - d3 a b c := by unfold d3; grind
theorem d3_aab (a b : Vec) : d3 a a b = 0 := by unfold d3; grind
theorem d3_aba (a b : Vec) : d3 a b a = 0 := by unfold d3; grind
theorem d3_abb (a b : Vec) : d3 a b b = 0 := by unfold d3; grind
theorem kk_a (a b c : Vec) : kk a b c a = 0 := by unfold kk; rw [d3_aba, d3_abb, d3_rot a b c]; grind
theorem kk_rot (a b c p : Vec) : kk b c a p = kk a b c p := by unfold kk; rw [d3_rot a b c]; grind
theorem kk_b (a b c : Vec) : kk a b c b = 0 := by rw [← kk_rot]; exact kk_a b c a
theorem kk_c (a b c : Vec) : kk a b c c = 0 := by rw [← kk_rot, ← kk_rot]; exact kk_a c a b

theorem cr_x (a b c p : Vec) : d3 a b c * p.x = d3 b c p * a.x + d3 c a p * b.x + d3 a b p * c.x := by unfold d3; grind
theorem cr_y (a b c p : Vec) : d3 a b c * p.y = d3 b c p * a.y + d3 c a p * b.y + d3 a b p * c.y := by unfold d3; grind
theorem cr_w (a b c p : Vec) : d3 a b c * p.w = d3 b c p * a.w + d3 c a p * b.w + d3 a b p * c.w := by unfold d3; grind

/-- four points hang together -/
theorem cf (l a b c p : Vec) : d3 a b c * dot l p = d3 b c p * dot l a + d3 c a p * dot l b + d3 a b p * dot l c - l.z * kk a b c p := by
  have h1 := cr_x a b c p
  have h2 := cr_y a b c p
  have h3 := cr_w a b c p
  unfold dot kk
  generalize d3 a b c = D at *
  generalize d3 b c p = A at *
  generalize d3 c a p = B at *
  generalize d3 a b p = C at *
  have e1 : D * (l.x * p.x + l.y * p.y + l.w * p.w + l.z * p.z) = l.x * (D * p.x) + l.y * (D * p.y) + l.w * (D * p.w) + D * l.z * p.z := by grind
  rw [e1, h1, h2, h3]; grind

/-- two triangles and a point -/
theorem mi (a b c d e f p : Vec) : d3 a b c * kk d e f p = d3 b c p * kk d e f a + d3 c a p * kk d e f b + d3 a b p * kk d e f c + d3 d e f * kk a b c p := by
  have := cf (kf d e f) a b c p
  rw [dot_kf, dot_kf, dot_kf, dot_kf, kf_z] at this
  grind

theorem mnn {a b : Int} (h : 0 ≤ a) (k : 0 ≤ b) : 0 ≤ a * b := Int.mul_nonneg h k
theorem mpp {a b : Int} (h : 0 < a) (k : 0 < b) : 0 < a * b := Int.mul_pos h k
theorem mqq {a b : Int} (h : a ≤ 0) (k : b ≤ 0) : 0 ≤ a * b := by
  have := Int.mul_nonneg (show 0 ≤ -a by omega) (show 0 ≤ -b by omega); rw [Int.neg_mul_neg] at this; exact this
theorem mnq {a b : Int} (h : 0 ≤ a) (k : b ≤ 0) : a * b ≤ 0 := by
  have := Int.mul_nonneg h (show 0 ≤ -b by omega); rw [Int.mul_neg] at this; omega
theorem mqn {a b : Int} (h : a ≤ 0) (k : 0 ≤ b) : a * b ≤ 0 := by rw [Int.mul_comm]; exact mnq k h
theorem mpm {a b : Int} (h : 0 < a) (k : b < 0) : a * b < 0 := by
  have := Int.mul_pos h (show 0 < -b by omega); rw [Int.mul_neg] at this; omega
theorem mmp {a b : Int} (h : a < 0) (k : 0 < b) : a * b < 0 := by rw [Int.mul_comm]; exact mpm k h
theorem mmm {a b : Int} (h : a < 0) (k : b < 0) : 0 < a * b := by
  have := Int.mul_pos (show 0 < -a by omega) (show 0 < -b by omega); rw [Int.neg_mul_neg] at this; exact this
theorem dpos {a b : Int} (h : 0 < a) (k : 0 < a * b) : 0 < b := by
  rcases Int.lt_or_le 0 b with r | r
  · exact r
  · have := mnq (Int.le_of_lt h) r; omega
theorem dnn {a b : Int} (h : 0 < a) (k : 0 ≤ a * b) : 0 ≤ b := by
  rcases Int.lt_or_le b 0 with r | r
  · have := mpm h r; omega
  · exact r
theorem dnp {a b : Int} (h : 0 < a) (k : a * b ≤ 0) : b ≤ 0 := by
  rcases Int.lt_or_le 0 b with r | r
  · have := mpp h r; omega
  · exact r
theorem dneg {a b : Int} (h : 0 < a) (k : a * b < 0) : b < 0 := by
  rcases Int.lt_or_le b 0 with r | r
  · exact r
  · have := mnn (Int.le_of_lt h) r; omega
theorem dz {a b : Int} (h : 0 < a) (k : a * b = 0) : b = 0 := by
  have h1 := dnn h (Int.le_of_eq k.symm); have h2 := dnp h (Int.le_of_eq k); omega

/-- across an edge that p lies behind -/
theorem edge_over {a b c d p : Vec} (ht : 0 < d3 a b c) (ht' : 0 < d3 b a d) (hc : kk b a d c ≤ 0) (hs : d3 a b p ≤ 0) (hk : 0 < kk a b c p) : 0 < kk b a d p := by
  have := mi a b c b a d p
  rw [kk_a, kk_b] at this
  have h1 := mqq hs hc
  have h2 := mpp ht' hk
  exact dpos ht (by omega)

/-- a new triangle has all points above its plane -/
theorem new_out {a b c d p q : Vec} (ht : 0 < d3 a b c) (ht' : 0 < d3 b a d) (hp : 0 < d3 a b p) (hk : 0 < kk a b c p) (hk' : kk b a d p ≤ 0) (hq : kk a b c q ≤ 0) (hq' : kk b a d q ≤ 0) : kk a b p q ≤ 0 := by
  rcases Int.lt_or_le (d3 a b q) 0 with h | h
  · have := mi a b p b a d q
    rw [kk_a, kk_b] at this
    have h1 := mnq (Int.le_of_lt hp) hq'
    have h2 := mqq (Int.le_of_lt h) hk'
    exact dnp ht' (by omega)
  · have := mi a b p a b c q
    rw [kk_a, kk_b] at this
    have h1 := mnq (Int.le_of_lt hp) hq
    have h2 := mnn h (Int.le_of_lt hk)
    exact dnp ht (by omega)

/-- l tells a from all others -/
def Tells (l a b : Vec) : Prop := dot l a = 0 ∧ 0 < dot l b

/-- two edges of the rim cannot end at one point -/
theorem rim_in {a a' b y x p la la' : Vec} (hab : 0 < d3 a b p) (hab' : 0 < d3 a' b p) (ht : 0 < d3 b a y) (ht2 : 0 < d3 a' b x)
    (hk : kk b a y p ≤ 0) (hk2 : 0 < kk a' b x p) (h1 : kk b a y a' ≤ 0) (h2 : kk a' b x a ≤ 0) (hs : 0 ≤ d3 b a a')
    (ta : dot la a = 0) (ta' : 0 < dot la a') (tab : 0 < dot la b) (sa' : dot la' a' = 0) (sa : 0 < dot la' a) (sab : 0 < dot la' b) : False := by
  have e1 := mi b a a' b a y p
  rw [kk_a, kk_b] at e1
  have e2 := mi b a a' a' b x p
  rw [kk_a, kk_b] at e2
  have s1 : d3 b a p = - d3 a b p := d3_swap a b p
  rw [s1] at e1 e2
  have f1 : kk b a a' p ≤ 0 := by
    refine dnp ht ?_
    have m1 := mnq hs hk
    have m2 := mnq (Int.le_of_lt hab) h1
    have : -d3 a b p * kk b a y a' = -(d3 a b p * kk b a y a') := Int.neg_mul _ _
    omega
  have m3 := mnq (Int.le_of_lt hab') h2
  have m4 := mnq (Int.le_of_lt ht2) f1
  have m5 := mnn hs (Int.le_of_lt hk2)
  have hz : d3 b a a' = 0 := by
    rcases Int.lt_or_le 0 (d3 b a a') with h | h
    · have := mpp h hk2; omega
    · omega
  have hk0 : kk b a a' p = 0 := dz ht2 (by omega)
  have c1 := cf la b a a' p
  have c2 := cf la' b a a' p
  rw [hz, hk0, s1, ta] at c1
  rw [hz, hk0, s1, sa'] at c2
  have g1 := mpp hab ta'
  have g2 := mpp hab' sa
  have n1 : -d3 a b p * dot la a' = -(d3 a b p * dot la a') := Int.neg_mul _ _
  rcases Int.lt_or_le 0 (d3 a a' p) with h | h
  · have := mpp h sab; omega
  · have := mqn h (Int.le_of_lt tab); omega

theorem rim_out {a b b' y x p lb lb' : Vec} (hab : 0 < d3 a b p) (hab' : 0 < d3 a b' p) (ht : 0 < d3 b a y) (ht2 : 0 < d3 a b' x)
    (hk : kk b a y p ≤ 0) (hk2 : 0 < kk a b' x p) (h1 : kk b a y b' ≤ 0) (h2 : kk a b' x b ≤ 0) (hs : 0 ≤ d3 a b' b)
    (tb : dot lb b = 0) (tb' : 0 < dot lb b') (tba : 0 < dot lb a) (sb' : dot lb' b' = 0) (sb : 0 < dot lb' b) (sba : 0 < dot lb' a) : False := by
  have e1 := mi a b' b b a y p
  rw [kk_a, kk_b] at e1
  have e2 := mi a b' b a b' x p
  rw [kk_a, kk_b] at e2
  have s1 : d3 b a p = - d3 a b p := d3_swap a b p
  rw [s1] at e1 e2
  have f1 : kk a b' b p ≤ 0 := by
    refine dnp ht ?_
    have m1 := mnq hs hk
    have m2 := mnq (Int.le_of_lt hab) h1
    have : -d3 a b p * kk b a y b' = -(d3 a b p * kk b a y b') := Int.neg_mul _ _
    omega
  have m3 := mnq (Int.le_of_lt hab') h2
  have m4 := mnq (Int.le_of_lt ht2) f1
  have m5 := mnn hs (Int.le_of_lt hk2)
  have hz : d3 a b' b = 0 := by
    rcases Int.lt_or_le 0 (d3 a b' b) with h | h
    · have := mpp h hk2; omega
    · omega
  have hk0 : kk a b' b p = 0 := dz ht2 (by omega)
  have c1 := cf lb a b' b p
  have c2 := cf lb' a b' b p
  rw [hz, hk0, s1, tb] at c1
  rw [hz, hk0, s1, sb'] at c2
  have g1 := mpp hab tb'
  have g2 := mpp hab' sb
  have n1 : -d3 a b p * dot lb b' = -(d3 a b p * dot lb b') := Int.neg_mul _ _
  rcases Int.lt_or_le 0 (d3 b' b p) with h | h
  · have := mpp h sba; omega
  · have := mqn h (Int.le_of_lt tba); omega

/-- two edges cross -/
def Cross (a b c d : Vec) : Prop := 0 < d3 b c d ∧ d3 a c d < 0 ∧ d3 a b d < 0 ∧ 0 < d3 a b c

theorem Cross.turn {a b c d : Vec} (h : Cross a b c d) : Cross b a d c := by
  obtain ⟨h1, h2, h3, h4⟩ := h
  refine ⟨?_, ?_, ?_, ?_⟩
  · rw [d3_swap2]; omega
  · rw [d3_swap2]; omega
  · rw [d3_swap]; omega
  · rw [d3_swap]; omega
theorem Cross.flip {a b c d : Vec} (h : Cross a b c d) : Cross c d b a := by
  obtain ⟨h1, h2, h3, h4⟩ := h
  refine ⟨?_, ?_, ?_, ?_⟩
  · have := d3_rot d a b; have := d3_rot a b d; rw [d3_swap2]; omega
  · have := d3_rot c a b; have := d3_rot a b c; rw [d3_swap2]; omega
  · have := d3_rot a c d; omega
  · have := d3_rot b c d; omega

/-- an edge to a new point crosses none that stays -/
theorem no_cross {a c d p u v x r s t : Vec} (hta : 0 < d3 u v x) (ht' : 0 < d3 r s t) (ka : kk u v x a = 0) (kp : 0 < kk u v x p) (kc : kk u v x c ≤ 0) (kd : kk u v x d ≤ 0)
    (jc : kk r s t c = 0) (jd : kk r s t d = 0) (ja : kk r s t a ≤ 0) (jp : kk r s t p ≤ 0) (h : Cross a p c d) : False := by
  obtain ⟨h1, h2, h3, h4⟩ := h
  have e1 := mi a c d r s t p
  have e2 := mi a c d u v x p
  rw [jc, jd] at e1
  rw [ka] at e2
  have r1 : d3 c d p = d3 p c d := d3_rot p c d
  have r2 : d3 d a p = d3 a p d := (d3_rot d a p).symm
  have r3 : d3 a c p = - d3 a p c := d3_swap2 a p c
  rw [r1] at e1
  rw [r2, r3] at e2
  have f1 : 0 ≤ kk a c d p := by
    refine dnn ht' ?_
    have m1 := mqq (Int.le_of_lt h2) jp
    have m2 := mnq (Int.le_of_lt h1) ja
    omega
  have m1 := mmp h2 kp
  have m2 := mqq (Int.le_of_lt h3) kc
  have m3 := mnq (Int.le_of_lt h4) kd
  have m4 := mnn (Int.le_of_lt hta) f1
  have n1 : -d3 a p c * kk u v x d = -(d3 a p c * kk u v x d) := Int.neg_mul _ _
  omega

/-- what lies in a triangle lies below its plane -/
theorem in_below {a b c p l : Vec} (ht : 0 < d3 a b c) (ha : 0 ≤ d3 b c p) (hb : 0 ≤ d3 c a p) (hc : 0 ≤ d3 a b p) (lp : dot l p = 0) (la : 0 < dot l a) (lb : 0 < dot l b) (lc : 0 < dot l c) (lz : 0 < l.z) (hw : p.w ≠ 0) : 0 < kk a b c p := by
  have e := cf l a b c p
  rw [lp] at e
  have m1 := mnn ha (Int.le_of_lt la)
  have m2 := mnn hb (Int.le_of_lt lb)
  have m3 := mnn hc (Int.le_of_lt lc)
  refine dpos lz ?_
  have hne : ¬ (d3 b c p = 0 ∧ d3 c a p = 0 ∧ d3 a b p = 0) := by
    rintro ⟨z1, z2, z3⟩
    have := cr_w a b c p
    rw [z1, z2, z3] at this
    exact hw (dz ht (by omega))
  rcases Int.lt_or_le 0 (d3 b c p) with h | h
  · have := mpp h la; omega
  · rcases Int.lt_or_le 0 (d3 c a p) with h' | h'
    · have := mpp h' lb; omega
    · have h3 : 0 < d3 a b p := by omega
      have := mpp h3 lc; omega

/-- the point opposite to p lies in no triangle that p lies below -/
theorem not_opp {a b c p l : Vec} (ht : 0 < d3 a b c) (ha : d3 b c p ≤ 0) (hb : d3 c a p ≤ 0) (hc : d3 a b p ≤ 0) (la : dot l a = 0) (lp : 0 < dot l p) (lb : 0 < dot l b) (lc : 0 < dot l c) (lz : 0 < l.z) (hk : 0 < kk a b c p) : False := by
  have e := cf l a b c p
  rw [la] at e
  have m2 := mqn hb (Int.le_of_lt lb)
  have m3 := mqn hc (Int.le_of_lt lc)
  have m4 := mpp lz hk
  have m5 := mpp ht lp
  omega
end Go.Proofs.Ytgpapegpdfonpaa
