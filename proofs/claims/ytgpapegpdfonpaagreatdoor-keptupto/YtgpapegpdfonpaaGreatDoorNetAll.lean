/-
  Triangles between points, lifted: vectors of a plane with a height, and how they lie to each other.
  Triangles that are shut (each edge is gone along both ways) lie over the whole plane.
  A net of triangles, and a point that comes: the triangles below whose planes it lies go, and it is joined to the rim of the hole.
  Points of the plane, lifted, and one beyond the boundary on every side: the first net.
  What a net of points says: triangles, the boundary, all points.
  How many triangles a net has: two for each point, but for those on the boundary.
  The count of a net's triangles, by edges that go to the right.
  The boundary of a net and the corners around its points.
  The areas of a net's triangles, all together: that of the corners.
-/
import Derived.KernelRfl
import Derived.Test.YtgpapegpdfonpaaGreatDoorHullAll
namespace Go.Proofs.YtgpapegpdfonpaaGreatDoor
set_option linter.unusedVariables false
set_option linter.unusedSimpArgs false

/-- a point by its place (x, y), its weight and its height -/
structure Vec where
  x : Int
  y : Int
  w : Int
  z : Int

def d3 (a b c : Vec) : Int := a.x * (b.y * c.w - b.w * c.y) - a.y * (b.x * c.w - b.w * c.x) + a.w * (b.x * c.y - b.y * c.x)
def dot (l v : Vec) : Int := l.x * v.x + l.y * v.y + l.w * v.w + l.z * v.z
/-- how far p lies below the plane through a, b, c -/
def kk (a b c p : Vec) : Int := a.z * d3 b c p + b.z * d3 c a p + c.z * d3 a b p - d3 a b c * p.z
/-- the same as something that is asked of p -/
def kf (a b c : Vec) : Vec where
  x := a.z * (b.y * c.w - b.w * c.y) + b.z * (c.y * a.w - c.w * a.y) + c.z * (a.y * b.w - a.w * b.y)
  y := -(a.z * (b.x * c.w - b.w * c.x) + b.z * (c.x * a.w - c.w * a.x) + c.z * (a.x * b.w - a.w * b.x))
  w := a.z * (b.x * c.y - b.y * c.x) + b.z * (c.x * a.y - c.y * a.x) + c.z * (a.x * b.y - a.y * b.x)
  z := - d3 a b c

theorem dot_kf (a b c p : Vec) : dot (kf a b c) p = kk a b c p := by unfold dot kf kk d3; grind
theorem kf_z (a b c : Vec) : (kf a b c).z = - d3 a b c := rfl
theorem d3_rot (a b c : Vec) : d3 b c a = d3 a b c := by unfold d3; grind
theorem d3_swap (a b c : Vec) : d3 b a c = - d3 a b c := by unfold d3; grind
theorem d3_swap2 (a b c : Vec) : d3 a c b = - d3 a b c := by unfold d3; grind
theorem d3_aab (a b : Vec) : d3 a a b = 0 := by unfold d3; grind
theorem d3_aba (a b : Vec) : d3 a b a = 0 := by unfold d3; grind
theorem d3_abb (a b : Vec) : d3 a b b = 0 := by unfold d3; grind
theorem kk_a (a b c : Vec) : kk a b c a = 0 := by unfold kk; rw [d3_aba, d3_abb, d3_rot a b c]; grind
theorem kk_rot (a b c p : Vec) : kk b c a p = kk a b c p := by unfold kk; rw [d3_rot a b c]; grind
theorem kk_b (a b c : Vec) : kk a b c b = 0 := by rw [← kk_rot]; exact kk_a b c a
theorem kk_c (a b c : Vec) : kk a b c c = 0 := by rw [← kk_rot, ← kk_rot]; exact kk_a c a b

theorem cr_x (a b c p : Vec) : d3 a b c * p.x = d3 b c p * a.x + d3 c a p * b.x + d3 a b p * c.x := by unfold d3; grind
theorem cr_y (a b c p : Vec) : d3 a b c * p.y = d3 b c p * a.y + d3 c a p * b.y + d3 a b p * c.y := by unfold d3; grind
theorem cr_w (a b c p : Vec) : d3 a b c * p.w = d3 b c p * a.w + d3 c a p * b.w + d3 a b p * c.w := by unfold d3; grind

/-- four points hang together -/
theorem cf (l a b c p : Vec) : d3 a b c * dot l p = d3 b c p * dot l a + d3 c a p * dot l b + d3 a b p * dot l c - l.z * kk a b c p := by
  have h1 := cr_x a b c p
  have h2 := cr_y a b c p
  have h3 := cr_w a b c p
  unfold dot kk
  generalize d3 a b c = D at *
  generalize d3 b c p = A at *
  generalize d3 c a p = B at *
  generalize d3 a b p = C at *
  have e1 : D * (l.x * p.x + l.y * p.y + l.w * p.w + l.z * p.z) = l.x * (D * p.x) + l.y * (D * p.y) + l.w * (D * p.w) + D * l.z * p.z := by grind
  rw [e1, h1, h2, h3]; grind

/-- two triangles and a point -/
theorem mi (a b c d e f p : Vec) : d3 a b c * kk d e f p = d3 b c p * kk d e f a + d3 c a p * kk d e f b + d3 a b p * kk d e f c + d3 d e f * kk a b c p := by
  have := cf (kf d e f) a b c p
  rw [dot_kf, dot_kf, dot_kf, dot_kf, kf_z] at this
  grind

theorem mnn {a b : Int} (h : 0 ≤ a) (k : 0 ≤ b) : 0 ≤ a * b := Int.mul_nonneg h k
theorem mpp {a b : Int} (h : 0 < a) (k : 0 < b) : 0 < a * b := Int.mul_pos h k
theorem mqq {a b : Int} (h : a ≤ 0) (k : b ≤ 0) : 0 ≤ a * b := by
  have := Int.mul_nonneg (show 0 ≤ -a by omega) (show 0 ≤ -b by omega); rw [Int.neg_mul_neg] at this; exact this
theorem mnq {a b : Int} (h : 0 ≤ a) (k : b ≤ 0) : a * b ≤ 0 := by
  have := Int.mul_nonneg h (show 0 ≤ -b by omega); rw [Int.mul_neg] at this; omega
theorem mqn {a b : Int} (h : a ≤ 0) (k : 0 ≤ b) : a * b ≤ 0 := by rw [Int.mul_comm]; exact mnq k h
theorem mpm {a b : Int} (h : 0 < a) (k : b < 0) : a * b < 0 := by
  have := Int.mul_pos h (show 0 < -b by omega); rw [Int.mul_neg] at this; omega
theorem mmp {a b : Int} (h : a < 0) (k : 0 < b) : a * b < 0 := by rw [Int.mul_comm]; exact mpm k h
theorem mmm {a b : Int} (h : a < 0) (k : b < 0) : 0 < a * b := by
  have := Int.mul_pos (show 0 < -a by omega) (show 0 < -b by omega); rw [Int.neg_mul_neg] at this; exact this
theorem dpos {a b : Int} (h : 0 < a) (k : 0 < a * b) : 0 < b := by
  rcases Int.lt_or_le 0 b with r | r
  · exact r
  · have := mnq (Int.le_of_lt h) r; omega
theorem dnn {a b : Int} (h : 0 < a) (k : 0 ≤ a * b) : 0 ≤ b := by
  rcases Int.lt_or_le b 0 with r | r
  · have := mpm h r; omega
  · exact r
theorem dnp {a b : Int} (h : 0 < a) (k : a * b ≤ 0) : b ≤ 0 := by
  rcases Int.lt_or_le 0 b with r | r
  · have := mpp h r; omega
  · exact r
theorem dneg {a b : Int} (h : 0 < a) (k : a * b < 0) : b < 0 := by
  rcases Int.lt_or_le b 0 with r | r
  · exact r
  · have := mnn (Int.le_of_lt h) r; omega
theorem dz {a b : Int} (h : 0 < a) (k : a * b = 0) : b = 0 := by
  have h1 := dnn h (Int.le_of_eq k.symm); have h2 := dnp h (Int.le_of_eq k); omega

/-- across an edge that p lies behind -/
theorem edge_over {a b c d p : Vec} (ht : 0 < d3 a b c) (ht' : 0 < d3 b a d) (hc : kk b a d c ≤ 0) (hs : d3 a b p ≤ 0) (hk : 0 < kk a b c p) : 0 < kk b a d p := by
  have := mi a b c b a d p
  rw [kk_a, kk_b] at this
  have h1 := mqq hs hc
  have h2 := mpp ht' hk
  exact dpos ht (by omega)

/-- a new triangle has all points above its plane -/
theorem new_out {a b c d p q : Vec} (ht : 0 < d3 a b c) (ht' : 0 < d3 b a d) (hp : 0 < d3 a b p) (hk : 0 < kk a b c p) (hk' : kk b a d p ≤ 0) (hq : kk a b c q ≤ 0) (hq' : kk b a d q ≤ 0) : kk a b p q ≤ 0 := by
  rcases Int.lt_or_le (d3 a b q) 0 with h | h
  · have := mi a b p b a d q
    rw [kk_a, kk_b] at this
    have h1 := mnq (Int.le_of_lt hp) hq'
    have h2 := mqq (Int.le_of_lt h) hk'
    exact dnp ht' (by omega)
  · have := mi a b p a b c q
    rw [kk_a, kk_b] at this
    have h1 := mnq (Int.le_of_lt hp) hq
    have h2 := mnn h (Int.le_of_lt hk)
    exact dnp ht (by omega)

/-- l tells a from all others -/
def Tells (l a b : Vec) : Prop := dot l a = 0 ∧ 0 < dot l b

/-- two edges of the rim cannot end at one point -/
theorem rim_in {a a' b y x p la la' : Vec} (hab : 0 < d3 a b p) (hab' : 0 < d3 a' b p) (ht : 0 < d3 b a y) (ht2 : 0 < d3 a' b x)
    (hk : kk b a y p ≤ 0) (hk2 : 0 < kk a' b x p) (h1 : kk b a y a' ≤ 0) (h2 : kk a' b x a ≤ 0) (hs : 0 ≤ d3 b a a')
    (ta : dot la a = 0) (ta' : 0 < dot la a') (tab : 0 < dot la b) (sa' : dot la' a' = 0) (sa : 0 < dot la' a) (sab : 0 < dot la' b) : False := by
  have e1 := mi b a a' b a y p
  rw [kk_a, kk_b] at e1
  have e2 := mi b a a' a' b x p
  rw [kk_a, kk_b] at e2
  have s1 : d3 b a p = - d3 a b p := d3_swap a b p
  rw [s1] at e1 e2
  have f1 : kk b a a' p ≤ 0 := by
    refine dnp ht ?_
    have m1 := mnq hs hk
    have m2 := mnq (Int.le_of_lt hab) h1
    have : -d3 a b p * kk b a y a' = -(d3 a b p * kk b a y a') := Int.neg_mul _ _
    omega
  have m3 := mnq (Int.le_of_lt hab') h2
  have m4 := mnq (Int.le_of_lt ht2) f1
  have m5 := mnn hs (Int.le_of_lt hk2)
  have hz : d3 b a a' = 0 := by
    rcases Int.lt_or_le 0 (d3 b a a') with h | h
    · have := mpp h hk2; omega
    · omega
  have hk0 : kk b a a' p = 0 := dz ht2 (by omega)
  have c1 := cf la b a a' p
  have c2 := cf la' b a a' p
  rw [hz, hk0, s1, ta] at c1
  rw [hz, hk0, s1, sa'] at c2
  have g1 := mpp hab ta'
  have g2 := mpp hab' sa
  have n1 : -d3 a b p * dot la a' = -(d3 a b p * dot la a') := Int.neg_mul _ _
  rcases Int.lt_or_le 0 (d3 a a' p) with h | h
  · have := mpp h sab; omega
  · have := mqn h (Int.le_of_lt tab); omega

theorem rim_out {a b b' y x p lb lb' : Vec} (hab : 0 < d3 a b p) (hab' : 0 < d3 a b' p) (ht : 0 < d3 b a y) (ht2 : 0 < d3 a b' x)
    (hk : kk b a y p ≤ 0) (hk2 : 0 < kk a b' x p) (h1 : kk b a y b' ≤ 0) (h2 : kk a b' x b ≤ 0) (hs : 0 ≤ d3 a b' b)
    (tb : dot lb b = 0) (tb' : 0 < dot lb b') (tba : 0 < dot lb a) (sb' : dot lb' b' = 0) (sb : 0 < dot lb' b) (sba : 0 < dot lb' a) : False := by
  have e1 := mi a b' b b a y p
  rw [kk_a, kk_b] at e1
  have e2 := mi a b' b a b' x p
  rw [kk_a, kk_b] at e2
  have s1 : d3 b a p = - d3 a b p := d3_swap a b p
  rw [s1] at e1 e2
  have f1 : kk a b' b p ≤ 0 := by
    refine dnp ht ?_
    have m1 := mnq hs hk
    have m2 := mnq (Int.le_of_lt hab) h1
    have : -d3 a b p * kk b a y b' = -(d3 a b p * kk b a y b') := Int.neg_mul _ _
    omega
  have m3 := mnq (Int.le_of_lt hab') h2
  have m4 := mnq (Int.le_of_lt ht2) f1
  have m5 := mnn hs (Int.le_of_lt hk2)
  have hz : d3 a b' b = 0 := by
    rcases Int.lt_or_le 0 (d3 a b' b) with h | h
    · have := mpp h hk2; omega
    · omega
  have hk0 : kk a b' b p = 0 := dz ht2 (by omega)
  have c1 := cf lb a b' b p
  have c2 := cf lb' a b' b p
  rw [hz, hk0, s1, tb] at c1
  rw [hz, hk0, s1, sb'] at c2
  have g1 := mpp hab tb'
  have g2 := mpp hab' sb
  have n1 : -d3 a b p * dot lb b' = -(d3 a b p * dot lb b') := Int.neg_mul _ _
  rcases Int.lt_or_le 0 (d3 b' b p) with h | h
  · have := mpp h sba; omega
  · have := mqn h (Int.le_of_lt tba); omega

/-- two edges cross -/
def Cross (a b c d : Vec) : Prop := 0 < d3 b c d ∧ d3 a c d < 0 ∧ d3 a b d < 0 ∧ 0 < d3 a b c

theorem Cross.turn {a b c d : Vec} (h : Cross a b c d) : Cross b a d c := by
  obtain ⟨h1, h2, h3, h4⟩ := h
  refine ⟨?_, ?_, ?_, ?_⟩
  · rw [d3_swap2]; omega
  · rw [d3_swap2]; omega
  · rw [d3_swap]; omega
  · rw [d3_swap]; omega
theorem Cross.flip {a b c d : Vec} (h : Cross a b c d) : Cross c d b a := by
  obtain ⟨h1, h2, h3, h4⟩ := h
  refine ⟨?_, ?_, ?_, ?_⟩
  · have := d3_rot d a b; have := d3_rot a b d; rw [d3_swap2]; omega
  · have := d3_rot c a b; have := d3_rot a b c; rw [d3_swap2]; omega
  · have := d3_rot a c d; omega
  · have := d3_rot b c d; omega

/-- an edge to a new point crosses none that stays -/
theorem no_cross {a c d p u v x r s t : Vec} (hta : 0 < d3 u v x) (ht' : 0 < d3 r s t) (ka : kk u v x a = 0) (kp : 0 < kk u v x p) (kc : kk u v x c ≤ 0) (kd : kk u v x d ≤ 0)
    (jc : kk r s t c = 0) (jd : kk r s t d = 0) (ja : kk r s t a ≤ 0) (jp : kk r s t p ≤ 0) (h : Cross a p c d) : False := by
  obtain ⟨h1, h2, h3, h4⟩ := h
  have e1 := mi a c d r s t p
  have e2 := mi a c d u v x p
  rw [jc, jd] at e1
  rw [ka] at e2
  have r1 : d3 c d p = d3 p c d := d3_rot p c d
  have r2 : d3 d a p = d3 a p d := (d3_rot d a p).symm
  have r3 : d3 a c p = - d3 a p c := d3_swap2 a p c
  rw [r1] at e1
  rw [r2, r3] at e2
  have f1 : 0 ≤ kk a c d p := by
    refine dnn ht' ?_
    have m1 := mqq (Int.le_of_lt h2) jp
    have m2 := mnq (Int.le_of_lt h1) ja
    omega
  have m1 := mmp h2 kp
  have m2 := mqq (Int.le_of_lt h3) kc
  have m3 := mnq (Int.le_of_lt h4) kd
  have m4 := mnn (Int.le_of_lt hta) f1
  have n1 : -d3 a p c * kk u v x d = -(d3 a p c * kk u v x d) := Int.neg_mul _ _
  omega

/-- what lies in a triangle lies below its plane -/
theorem in_below {a b c p l : Vec} (ht : 0 < d3 a b c) (ha : 0 ≤ d3 b c p) (hb : 0 ≤ d3 c a p) (hc : 0 ≤ d3 a b p) (lp : dot l p = 0) (la : 0 < dot l a) (lb : 0 < dot l b) (lc : 0 < dot l c) (lz : 0 < l.z) (hw : p.w ≠ 0) : 0 < kk a b c p := by
  have e := cf l a b c p
  rw [lp] at e
  have m1 := mnn ha (Int.le_of_lt la)
  have m2 := mnn hb (Int.le_of_lt lb)
  have m3 := mnn hc (Int.le_of_lt lc)
  refine dpos lz ?_
  have hne : ¬ (d3 b c p = 0 ∧ d3 c a p = 0 ∧ d3 a b p = 0) := by
    rintro ⟨z1, z2, z3⟩
    have := cr_w a b c p
    rw [z1, z2, z3] at this
    exact hw (dz ht (by omega))
  rcases Int.lt_or_le 0 (d3 b c p) with h | h
  · have := mpp h la; omega
  · rcases Int.lt_or_le 0 (d3 c a p) with h' | h'
    · have := mpp h' lb; omega
    · have h3 : 0 < d3 a b p := by omega
      have := mpp h3 lc; omega

/-- the point opposite to p lies in no triangle that p lies below -/
theorem not_opp {a b c p l : Vec} (ht : 0 < d3 a b c) (ha : d3 b c p ≤ 0) (hb : d3 c a p ≤ 0) (hc : d3 a b p ≤ 0) (la : dot l a = 0) (lp : 0 < dot l p) (lb : 0 < dot l b) (lc : 0 < dot l c) (lz : 0 < l.z) (hk : 0 < kk a b c p) : False := by
  have e := cf l a b c p
  rw [la] at e
  have m2 := mqn hb (Int.le_of_lt lb)
  have m3 := mqn hc (Int.le_of_lt lc)
  have m4 := mpp lz hk
  have m5 := mpp ht lp
  omega
end Go.Proofs.YtgpapegpdfonpaaGreatDoor

namespace Go.Proofs.YtgpapegpdfonpaaGreatDoor
set_option linter.unusedVariables false
set_option linter.unusedSimpArgs false

structure Shut (V : Int → Vec) (vs : List Int) (Tr : Int → Int → Int → Prop) : Prop where
  rot : ∀ {a b c}, Tr a b c → Tr b c a
  pair : ∀ {a b c}, Tr a b c → ∃ d, Tr b a d
  mem : ∀ {a b c}, Tr a b c → a ∈ vs
  pos : ∀ {a b c}, Tr a b c → 0 < d3 (V a) (V b) (V c)

theorem list_max {α : Type} (P : α → Prop) (le : α → α → Prop) (tot : ∀ x y, P x → P y → le x y ∨ le y x)
    (tr : ∀ x y z, P x → P y → P z → le x y → le y z → le x z) : ∀ (L : List α), (∃ x ∈ L, P x) → ∃ x ∈ L, P x ∧ ∀ y ∈ L, P y → le y x
  | [], h => by obtain ⟨x, hx, _⟩ := h; simp at hx
  | a :: L, h => by
    by_cases hL : ∃ x ∈ L, P x
    · obtain ⟨x, hx, px, hm⟩ := list_max P le tot tr L hL
      by_cases pa : P a
      · rcases tot a x pa px with k | k
        · refine ⟨x, by simp [hx], px, fun y hy py => ?_⟩
          rcases List.mem_cons.1 hy with rfl | hy
          · exact k
          · exact hm y hy py
        · refine ⟨a, by simp, pa, fun y hy py => ?_⟩
          rcases List.mem_cons.1 hy with rfl | hy
          · rcases tot y y py py with k | k <;> exact k
          · exact tr y x a py px pa (hm y hy py) k
      · refine ⟨x, by simp [hx], px, fun y hy py => ?_⟩
        rcases List.mem_cons.1 hy with rfl | hy
        · exact absurd py pa
        · exact hm y hy py
    · obtain ⟨x, hx, px⟩ := h
      rcases List.mem_cons.1 hx with rfl | hx
      · refine ⟨x, by simp, px, fun y hy py => ?_⟩
        rcases List.mem_cons.1 hy with rfl | hy
        · rcases tot y y py py with k | k <;> exact k
        · exact absurd ⟨y, hy, py⟩ hL
      · exact absurd ⟨x, hx, px⟩ hL

def triples (vs : List Int) : List (Int × Int × Int) := vs.flatMap fun a => vs.flatMap fun b => vs.map fun c => (a, b, c)
theorem mem_triples {vs : List Int} {a b c : Int} : (a, b, c) ∈ triples vs ↔ a ∈ vs ∧ b ∈ vs ∧ c ∈ vs := by
  simp only [triples, List.mem_flatMap, List.mem_map, Prod.mk.injEq]
  constructor
  · rintro ⟨a', ha, b', hb, c', hc, rfl, rfl, rfl⟩
    exact ⟨ha, hb, hc⟩
  · rintro ⟨ha, hb, hc⟩
    exact ⟨a, ha, b, hb, c, hc, rfl, rfl, rfl⟩

theorem big (f : Int → Int) : ∀ vs : List Int, ∃ k : Int, 1 ≤ k ∧ ∀ b ∈ vs, f b < k
  | [] => ⟨1, by omega, by simp⟩
  | b :: vs => by
    obtain ⟨k, h1, h2⟩ := big f vs
    refine ⟨k + (f b).natAbs + 1, by omega, fun c hc => ?_⟩
    rcases List.mem_cons.1 hc with rfl | hc
    · omega
    · have := h2 c hc; omega

theorem quad {c0 c1 c2 k : Int} (hk : 1 ≤ k) (hb : ((c0.natAbs + c1.natAbs : Nat) : Int) < k) (h : c0 + k * c1 + k * k * c2 = 0) : c0 = 0 ∧ c1 = 0 ∧ c2 = 0 := by
  have e0 : c0 = 0 := by
    refine Int.eq_zero_of_dvd_of_natAbs_lt_natAbs (d := k) (n := c0) ⟨-(c1 + k * c2), by grind⟩ (by omega)
  subst e0
  have h' : k * (c1 + k * c2) = 0 := by grind
  have h2 : c1 + k * c2 = 0 := dz (by omega) h'
  have e1 : c1 = 0 := by
    refine Int.eq_zero_of_dvd_of_natAbs_lt_natAbs (d := k) (n := c1) ⟨-c2, by grind⟩ (by omega)
  subst e1
  exact ⟨rfl, rfl, dz (show 0 < k by omega) (by omega)⟩

/-- of three vectors a mix -/
def mix (a b c : Vec) (k : Int) : Vec := ⟨a.x + k * b.x + k * k * c.x, a.y + k * b.y + k * k * c.y, a.w + k * b.w + k * k * c.w, 0⟩
def lin (m n : Int) (r q : Vec) : Vec := ⟨n * r.x + m * q.x, n * r.y + m * q.y, n * r.w + m * q.w, 0⟩
theorem d3_mix (a b c u v : Vec) (k : Int) : d3 (mix a b c k) u v = d3 a u v + k * d3 b u v + k * k * d3 c u v := by unfold mix d3; grind
theorem d3_lin (m n : Int) (r q u v : Vec) : d3 u v (lin m n r q) = n * d3 u v r + m * d3 u v q := by unfold lin d3; grind
def two (u v : Vec) : Vec := ⟨u.y * v.w - u.w * v.y, -(u.x * v.w - u.w * v.x), u.x * v.y - u.y * v.x, 0⟩
theorem dot_two (u v y : Vec) : dot (two u v) y = d3 y u v := by unfold dot two d3; grind
theorem d3_cr (a b c y u v : Vec) : d3 a b c * d3 y u v = d3 b c y * d3 a u v + d3 c a y * d3 b u v + d3 a b y * d3 c u v := by
  have := cf (two u v) a b c y
  rw [dot_two, dot_two, dot_two, dot_two] at this
  rw [this]; simp [two]

theorem frac_trans {a b c A B C : Int} (h1 : a * B ≤ b * A) (h2 : b * C ≤ c * B) (hA : 0 ≤ A) (hB : 0 < B) (hC : 0 ≤ C) : a * C ≤ c * A := by
  have k1 := Int.mul_le_mul_of_nonneg_right h1 hC
  have k2 := Int.mul_le_mul_of_nonneg_right h2 hA
  have : 0 ≤ B * (c * A - a * C) := by grind
  have := dnn hB this
  omega

section
variable (V : Int → Vec) (Tr : Int → Int → Int → Prop) (r q : Vec)
def Ent (a b c : Int) : Prop := Tr a b c ∧ ∃ m n : Int, 0 ≤ m ∧ 0 < n ∧ 0 < n * d3 (V a) (V b) r + m * d3 (V a) (V b) q ∧ 0 < n * d3 (V b) (V c) r + m * d3 (V b) (V c) q ∧ 0 < n * d3 (V c) (V a) r + m * d3 (V c) (V a) q
/-- by which edge it is left -/
def LeavesBy (a b c : Int) : Prop := Ent V Tr r q a b c ∧ d3 (V a) (V b) q < 0 ∧
  (d3 (V b) (V c) q < 0 → d3 (V a) (V b) r * (- d3 (V b) (V c) q) ≤ d3 (V b) (V c) r * (- d3 (V a) (V b) q)) ∧
  (d3 (V c) (V a) q < 0 → d3 (V a) (V b) r * (- d3 (V c) (V a) q) ≤ d3 (V c) (V a) r * (- d3 (V a) (V b) q))
end

theorem Ent.turn {V Tr r q a b c} (hr : ∀ {a b c}, Tr a b c → Tr b c a) (h : Ent V Tr r q a b c) : Ent V Tr r q b c a := by
  obtain ⟨h, m, n, hm, hn, h1, h2, h3⟩ := h
  exact ⟨hr h, m, n, hm, hn, h2, h3, h1⟩

theorem Ent.exit {V Tr r q a b c} (hr : ∀ {a b c}, Tr a b c → Tr b c a) (h : Ent V Tr r q a b c) (hn : d3 (V a) (V b) q < 0 ∨ d3 (V b) (V c) q < 0 ∨ d3 (V c) (V a) q < 0) :
    LeavesBy V Tr r q a b c ∨ LeavesBy V Tr r q b c a ∨ LeavesBy V Tr r q c a b := by
  have h2 := h.turn hr
  have h3 := h2.turn hr
  unfold LeavesBy
  generalize Ent V Tr r q a b c = P1 at *
  generalize Ent V Tr r q b c a = P2 at *
  generalize Ent V Tr r q c a b = P3 at *
  generalize d3 (V a) (V b) q = x at *
  generalize d3 (V b) (V c) q = y at *
  generalize d3 (V c) (V a) q = z at *
  generalize d3 (V a) (V b) r = A at *
  generalize d3 (V b) (V c) r = B at *
  generalize d3 (V c) (V a) r = C at *
  by_cases hx : x < 0 <;> by_cases hy : y < 0 <;> by_cases hz : z < 0
  · rcases Int.le_total (A * -y) (B * -x) with k | k
    · rcases Int.le_total (A * -z) (C * -x) with k' | k'
      · exact .inl ⟨h, hx, fun _ => k, fun _ => k'⟩
      · exact .inr (.inr ⟨h3, hz, fun _ => k', fun _ => frac_trans k' k (by omega) (by omega) (by omega)⟩)
    · rcases Int.le_total (B * -z) (C * -y) with k' | k'
      · exact .inr (.inl ⟨h2, hy, fun _ => k', fun _ => k⟩)
      · exact .inr (.inr ⟨h3, hz, fun _ => frac_trans k' k (by omega) (by omega) (by omega), fun _ => k'⟩)
  · rcases Int.le_total (A * -y) (B * -x) with k | k
    · exact .inl ⟨h, hx, fun _ => k, fun e => absurd e hz⟩
    · exact .inr (.inl ⟨h2, hy, fun e => absurd e hz, fun _ => k⟩)
  · rcases Int.le_total (A * -z) (C * -x) with k' | k'
    · exact .inl ⟨h, hx, fun e => absurd e hy, fun _ => k'⟩
    · exact .inr (.inr ⟨h3, hz, fun _ => k', fun e => absurd e hy⟩)
  · exact .inl ⟨h, hx, fun e => absurd e hy, fun e => absurd e hz⟩
  · rcases Int.le_total (B * -z) (C * -y) with k' | k'
    · exact .inr (.inl ⟨h2, hy, fun _ => k', fun e => absurd e hx⟩)
    · exact .inr (.inr ⟨h3, hz, fun e => absurd e hx, fun _ => k'⟩)
  · exact .inr (.inl ⟨h2, hy, fun e => absurd e hz, fun e => absurd e hx⟩)
  · exact .inr (.inr ⟨h3, hz, fun e => absurd e hx, fun e => absurd e hy⟩)
  · omega

/-- at the place where it is left, the two others still hold -/
theorem exit_ge {A x B y m n : Int} (hm : 0 ≤ m) (hn : 0 < n) (h1 : 0 < n * A + m * x) (h2 : 0 < n * B + m * y) (hx : x < 0) (hy : y < 0 → A * -y ≤ B * -x) : 0 ≤ (-x) * B + A * y := by
  rcases Int.lt_or_le y 0 with h | h
  · have := hy h; grind
  · refine dnn hn ?_
    have k1 : 0 ≤ (-x) * (n * B + m * y) := mnn (by omega) (by omega)
    have k2 : 0 ≤ y * (n * A + m * x) := mnn h (by omega)
    grind

theorem d3_zero_all {a b c : Vec} {q b' : Vec} (hD : 0 < d3 a b c) (h1 : d3 a q b' = 0) (h2 : d3 b q b' = 0) (h3 : d3 c q b' = 0) (y : Vec) : d3 y q b' = 0 := by
  have := d3_cr a b c y q b'
  rw [h1, h2, h3] at this
  exact dz hD (by omega)

theorem cover {V : Int → Vec} {vs : List Int} {Tr : Int → Int → Int → Prop} (S : Shut V vs Tr) {a0 b0 c0 : Int} (h0 : Tr a0 b0 c0) (q : Vec) :
    ∃ a b c, Tr a b c ∧ 0 ≤ d3 (V a) (V b) q ∧ 0 ≤ d3 (V b) (V c) q ∧ 0 ≤ d3 (V c) (V a) q := by
  refine Classical.byContradiction fun hno => ?_
  have hneg : ∀ a b c, Tr a b c → d3 (V a) (V b) q < 0 ∨ d3 (V b) (V c) q < 0 ∨ d3 (V c) (V a) q < 0 := by
    intro a b c h
    refine Classical.byContradiction fun hn => hno ⟨a, b, c, h, ?_, ?_, ?_⟩ <;> omega
  obtain ⟨k, hk1, hk⟩ := big (fun b => (((d3 (V a0) q (V b)).natAbs + (d3 (V b0) q (V b)).natAbs : Nat) : Int)) vs
  have hD0 := S.pos h0
  generalize hr : mix (V a0) (V b0) (V c0) k = r
  have gen : ∀ b ∈ vs, (∃ y, d3 y q (V b) ≠ 0) → d3 r q (V b) ≠ 0 := by
    intro b hb ⟨y, hy⟩ e
    rw [← hr, d3_mix] at e
    obtain ⟨e1, e2, e3⟩ := quad hk1 (hk b hb) e
    exact hy (d3_zero_all hD0 e1 e2 e3 y)
  have hE0 : Ent V Tr r q a0 b0 c0 := by
    refine ⟨h0, 0, 1, by omega, by omega, ?_, ?_, ?_⟩
    · rw [← hr, ← d3_rot, ← d3_rot, d3_mix, d3_aab, d3_aba]
      have : d3 (V c0) (V a0) (V b0) = d3 (V a0) (V b0) (V c0) := (d3_rot _ _ _).symm
      rw [this]
      have := mpp (mpp (show 0 < k by omega) (show 0 < k by omega)) hD0
      omega
    · rw [← hr, ← d3_rot, ← d3_rot, d3_mix, d3_aab, d3_aba]
      omega
    · rw [← hr, ← d3_rot, ← d3_rot, d3_mix, d3_aab, d3_aba]
      rw [d3_rot]
      have := mpp (show 0 < k by omega) hD0
      omega
  have hX : ∃ t ∈ triples vs, LeavesBy V Tr r q t.1 t.2.1 t.2.2 := by
    have m1 := S.mem h0
    have m2 := S.mem (S.rot h0)
    have m3 := S.mem (S.rot (S.rot h0))
    rcases hE0.exit S.rot (hneg _ _ _ h0) with h | h | h
    · exact ⟨(a0, b0, c0), mem_triples.2 ⟨m1, m2, m3⟩, h⟩
    · exact ⟨(b0, c0, a0), mem_triples.2 ⟨m2, m3, m1⟩, h⟩
    · exact ⟨(c0, a0, b0), mem_triples.2 ⟨m3, m1, m2⟩, h⟩
  obtain ⟨⟨a, b, c⟩, _, ⟨hE, hx, hy, hz⟩, hmax⟩ := list_max (fun t : Int × Int × Int => LeavesBy V Tr r q t.1 t.2.1 t.2.2)
    (fun s t => d3 (V s.1) (V s.2.1) r * (- d3 (V t.1) (V t.2.1) q) ≤ d3 (V t.1) (V t.2.1) r * (- d3 (V s.1) (V s.2.1) q))
    (fun x y _ _ => Int.le_total _ _)
    (fun x y z hx hy hz h1 h2 => frac_trans h1 h2 (by have := hx.2.1; omega) (by have := hy.2.1; omega) (by have := hz.2.1; omega)) (triples vs) hX
  dsimp only at hE hx hy hz hmax
  obtain ⟨hT, m, n, hm, hn, g1, g2, g3⟩ := hE
  have hD := S.pos hT
  -- the place where it is left
  generalize hQ : lin (d3 (V a) (V b) r) (- d3 (V a) (V b) q) r q = Q
  have q1 : d3 (V a) (V b) Q = 0 := by rw [← hQ, d3_lin]; grind
  have q2 : 0 ≤ d3 (V b) (V c) Q := by rw [← hQ, d3_lin]; exact exit_ge hm hn g1 g2 hx hy
  have q3 : 0 ≤ d3 (V c) (V a) Q := by rw [← hQ, d3_lin]; exact exit_ge hm hn g1 g3 hx hz
  have qz : d3 r q Q = 0 := by rw [← hQ, d3_lin, d3_aba, d3_abb]; simp
  have gb : d3 r q (V b) ≠ 0 := gen b (S.mem (S.rot hT)) ⟨V a, by rw [d3_swap2]; omega⟩
  have ga : d3 r q (V a) ≠ 0 := gen a (S.mem hT) ⟨V b, by rw [d3_swap2, d3_swap]; omega⟩
  have Qn : ∀ u v, d3 u v Q = (- d3 (V a) (V b) q) * d3 u v r + d3 (V a) (V b) r * d3 u v q := fun u v => by rw [← hQ, d3_lin]
  have nz : ¬ (d3 (V b) (V c) Q = 0 ∧ d3 (V c) (V a) Q = 0) := by
    rintro ⟨z2, z3⟩
    have all : ∀ u v, d3 u v Q = 0 := by
      intro u v
      have := d3_cr (V a) (V b) (V c) Q u v
      rw [z2, z3, q1] at this
      have e := dz hD (by omega : d3 (V a) (V b) (V c) * d3 Q u v = 0)
      rw [d3_rot]; exact e
    have e := all q (V b)
    rw [Qn, d3_aba] at e
    have e' : d3 q (V b) r = 0 := dz (show 0 < - d3 (V a) (V b) q by omega) (by omega)
    rw [d3_rot] at e'
    exact gb e'
  have cr := d3_cr (V a) (V b) (V c) Q r q
  rw [q1] at cr
  have cz : d3 Q r q = 0 := by rw [← d3_rot]; exact qz
  rw [cz] at cr
  have ra : d3 (V a) r q = d3 r q (V a) := (d3_rot _ _ _).symm
  have rb : d3 (V b) r q = d3 r q (V b) := (d3_rot _ _ _).symm
  rw [ra, rb] at cr
  have p2 : 0 < d3 (V b) (V c) Q := by
    rcases Int.lt_or_le 0 (d3 (V b) (V c) Q) with h | h
    · exact h
    · have e2 : d3 (V b) (V c) Q = 0 := by omega
      rw [e2] at cr
      have h3 : d3 (V c) (V a) Q ≠ 0 := fun e => nz ⟨e2, e⟩
      have := dz (show 0 < d3 (V c) (V a) Q by omega) (by omega : d3 (V c) (V a) Q * d3 r q (V b) = 0)
      exact absurd this gb
  have p3 : 0 < d3 (V c) (V a) Q := by
    rcases Int.lt_or_le 0 (d3 (V c) (V a) Q) with h | h
    · exact h
    · have e3 : d3 (V c) (V a) Q = 0 := by omega
      rw [e3] at cr
      have := dz p2 (by omega : d3 (V b) (V c) Q * d3 r q (V a) = 0)
      exact absurd this ga
  obtain ⟨d, hT'⟩ := S.pair hT
  have hD' := S.pos hT'
  have s1 : 0 < d3 (V a) (V d) Q := by
    have := d3_cr (V a) (V b) (V c) Q (V a) (V d)
    rw [q1, d3_aab] at this
    have e : d3 Q (V a) (V d) = d3 (V a) (V d) Q := (d3_rot _ _ _).symm
    rw [e] at this
    refine dpos hD ?_
    have := mpp p3 hD'
    omega
  have s2 : 0 < d3 (V d) (V b) Q := by
    have := d3_cr (V a) (V b) (V c) Q (V d) (V b)
    rw [q1] at this
    have e : d3 Q (V d) (V b) = d3 (V d) (V b) Q := (d3_rot _ _ _).symm
    have e2 : d3 (V b) (V d) (V b) = 0 := d3_aba _ _
    have e3 : d3 (V a) (V d) (V b) = d3 (V b) (V a) (V d) := d3_rot _ _ _
    rw [e, e2, e3] at this
    refine dpos hD ?_
    have := mpp p2 hD'
    omega
  -- a little beyond it
  generalize hN : ((d3 (V a) (V d) q).natAbs : Int) + ((d3 (V d) (V b) q).natAbs : Int) + 1 = N
  have hN1 : 1 ≤ N := by omega
  have hE' : Ent V Tr r q b a d := by
    refine ⟨hT', N * d3 (V a) (V b) r + 1, N * (- d3 (V a) (V b) q), ?_, mpp (by omega) (by omega), ?_, ?_, ?_⟩
    · -- the edge's number is not below nought at r
      have h1 : 0 < d3 (V a) (V b) r := by
        refine dpos hn ?_
        have := mnq hm (Int.le_of_lt hx)
        omega
      have := mpp (show 0 < N by omega) h1
      omega
    · rw [d3_swap (V a) (V b) r, d3_swap (V a) (V b) q]; grind
    · have := Qn (V a) (V d)
      have e : N * -d3 (V a) (V b) q * d3 (V a) (V d) r + (N * d3 (V a) (V b) r + 1) * d3 (V a) (V d) q = N * d3 (V a) (V d) Q + d3 (V a) (V d) q := by rw [this]; grind
      rw [e]
      have := Int.mul_le_mul_of_nonneg_left (show 1 ≤ d3 (V a) (V d) Q by omega) (show 0 ≤ N by omega)
      omega
    · have := Qn (V d) (V b)
      have e : N * -d3 (V a) (V b) q * d3 (V d) (V b) r + (N * d3 (V a) (V b) r + 1) * d3 (V d) (V b) q = N * d3 (V d) (V b) Q + d3 (V d) (V b) q := by rw [this]; grind
      rw [e]
      have := Int.mul_le_mul_of_nonneg_left (show 1 ≤ d3 (V d) (V b) Q by omega) (show 0 ≤ N by omega)
      omega
  have fin : ∀ u v, 0 < N * (- d3 (V a) (V b) q) * d3 (V u) (V v) r + (N * d3 (V a) (V b) r + 1) * d3 (V u) (V v) q → d3 (V u) (V v) q < 0 → d3 (V u) (V v) r * (- d3 (V a) (V b) q) ≤ d3 (V a) (V b) r * (- d3 (V u) (V v) q) → False := by
    intro u v h1 h2 h3
    have := Int.mul_le_mul_of_nonneg_left h3 (show 0 ≤ N by omega)
    grind
  obtain ⟨_, m', n', hm', hn', f1, f2, f3⟩ := id hE'
  have hex := hE'.exit S.rot (hneg _ _ _ hT')
  have mb := S.mem hT'
  have ma := S.mem (S.rot hT')
  have md := S.mem (S.rot (S.rot hT'))
  obtain ⟨_, m2, n2, hm2, hn2, k1, k2, k3⟩ := hE'
  have w1 : 0 < N * (- d3 (V a) (V b) q) * d3 (V b) (V a) r + (N * d3 (V a) (V b) r + 1) * d3 (V b) (V a) q := by
    rw [d3_swap (V a) (V b) r, d3_swap (V a) (V b) q]; grind
  have w2 : 0 < N * (- d3 (V a) (V b) q) * d3 (V a) (V d) r + (N * d3 (V a) (V b) r + 1) * d3 (V a) (V d) q := by
    have := Qn (V a) (V d)
    have e : N * -d3 (V a) (V b) q * d3 (V a) (V d) r + (N * d3 (V a) (V b) r + 1) * d3 (V a) (V d) q = N * d3 (V a) (V d) Q + d3 (V a) (V d) q := by rw [this]; grind
    rw [e]
    have := Int.mul_le_mul_of_nonneg_left (show 1 ≤ d3 (V a) (V d) Q by omega) (show 0 ≤ N by omega)
    omega
  have w3 : 0 < N * (- d3 (V a) (V b) q) * d3 (V d) (V b) r + (N * d3 (V a) (V b) r + 1) * d3 (V d) (V b) q := by
    have := Qn (V d) (V b)
    have e : N * -d3 (V a) (V b) q * d3 (V d) (V b) r + (N * d3 (V a) (V b) r + 1) * d3 (V d) (V b) q = N * d3 (V d) (V b) Q + d3 (V d) (V b) q := by rw [this]; grind
    rw [e]
    have := Int.mul_le_mul_of_nonneg_left (show 1 ≤ d3 (V d) (V b) Q by omega) (show 0 ≤ N by omega)
    omega
  rcases hex with h | h | h
  · exact fin b a w1 h.2.1 (hmax (b, a, d) (mem_triples.2 ⟨mb, ma, md⟩) h)
  · exact fin a d w2 h.2.1 (hmax (a, d, b) (mem_triples.2 ⟨ma, md, mb⟩) h)
  · exact fin d b w3 h.2.1 (hmax (d, b, a) (mem_triples.2 ⟨md, mb, ma⟩) h)
end Go.Proofs.YtgpapegpdfonpaaGreatDoor

namespace Go.Proofs.YtgpapegpdfonpaaGreatDoor
set_option linter.unusedVariables false
set_option linter.unusedSimpArgs false

structure Net (V : Int → Vec) (vs : List Int) (Tr : Int → Int → Int → Prop) : Prop extends Shut V vs Tr where
  fn : ∀ {a b c d}, Tr a b c → Tr a b d → c = d
  out : ∀ {a b c}, Tr a b c → ∀ q ∈ vs, kk (V a) (V b) (V c) (V q) ≤ 0
  ncr : ∀ {a b x c d y}, Tr a b x → Tr c d y → ¬ Cross (V a) (V b) (V c) (V d)
  ne : ∃ a b c, Tr a b c

/-- each point can be told from all others -/
def Sep (V : Int → Vec) (us : List Int) : Prop := ∀ a ∈ us, (V a).w ≠ 0 ∧ ∃ l : Vec, 0 < l.z ∧ dot l (V a) = 0 ∧ ∀ b ∈ us, b ≠ a → 0 < dot l (V b)

theorem len_le {α : Type} : ∀ (H S : List α), H.Nodup → (∀ p ∈ H, p ∈ S) → H.length ≤ S.length := by
  classical
  intro H
  induction H with
  | nil => intro S _ _; simp
  | cons a H ih =>
    intro S hn hs
    have ha : a ∈ S := hs a (by simp)
    have hn' := List.nodup_cons.1 hn
    have := ih (S.erase a) hn'.2 (fun p hp => by
      have hne : p ≠ a := fun e => hn'.1 (e ▸ hp)
      exact (List.mem_erase_of_ne hne).2 (hs p (by simp [hp])))
    rw [List.length_erase_of_mem ha] at this
    have hpos : 0 < S.length := List.length_pos_of_mem ha
    simp only [List.length_cons]
    omega

theorem nodup_map_on {α β : Type} (f : α → β) : ∀ (L : List α), L.Nodup → (∀ a ∈ L, ∀ b ∈ L, f a = f b → a = b) → (L.map f).Nodup
  | [], _, _ => by simp
  | a :: L, h, hi => by
    rw [List.map_cons, List.nodup_cons]
    have h' := List.nodup_cons.1 h
    refine ⟨fun hm => ?_, nodup_map_on f L h'.2 (fun x hx y hy => hi x (by simp [hx]) y (by simp [hy]))⟩
    obtain ⟨b, hb, e⟩ := List.mem_map.1 hm
    have := hi b (by simp [hb]) a (by simp) e
    subst this
    exact h'.1 hb

section
variable (V : Int → Vec) (Tr : Int → Int → Int → Prop) (p : Int)
def Rim (a b : Int) : Prop := ∃ c d, Tr a b c ∧ 0 < kk (V a) (V b) (V c) (V p) ∧ Tr b a d ∧ kk (V b) (V a) (V d) (V p) ≤ 0
def addTr (a b c : Int) : Prop := (Tr a b c ∧ kk (V a) (V b) (V c) (V p) ≤ 0) ∨ (Rim V Tr p a b ∧ c = p) ∨ (Rim V Tr p b c ∧ a = p) ∨ (Rim V Tr p c a ∧ b = p)
end

section
variable {V : Int → Vec} {Tr : Int → Int → Int → Prop} {p : Int} {vs : List Int}

theorem Net.rim_pos (N : Net V vs Tr) {a b : Int} (h : Rim V Tr p a b) : 0 < d3 (V a) (V b) (V p) := by
  obtain ⟨c, d, h1, h2, h3, h4⟩ := h
  rcases Int.lt_or_le 0 (d3 (V a) (V b) (V p)) with k | k
  · exact k
  · have := edge_over (N.pos h1) (N.pos h3) (N.out h3 c (N.mem (N.rot (N.rot h1)))) k h2
    omega

theorem Net.rim_in_uniq (N : Net V vs Tr) (sep : Sep V vs) {a a' b : Int} (h : Rim V Tr p a b) (h' : Rim V Tr p a' b) : a = a' := by
  have hp := N.rim_pos h
  have hp' := N.rim_pos h'
  obtain ⟨c, y, h1, h2, h3, h4⟩ := h
  obtain ⟨c', y', h1', h2', h3', h4'⟩ := h'
  have ma := N.mem h1
  have ma' := N.mem h1'
  have mb := N.mem h3
  refine Classical.byContradiction fun hne => ?_
  have hab : a ≠ b := by intro e; subst e; have := N.pos h1; rw [d3_aab] at this; omega
  have hab' : a' ≠ b := by intro e; subst e; have := N.pos h1'; rw [d3_aab] at this; omega
  obtain ⟨la, _, la0, la1⟩ := (sep a ma).2
  obtain ⟨la', _, la0', la1'⟩ := (sep a' ma').2
  rcases Int.lt_or_le (d3 (V b) (V a) (V a')) 0 with k | k
  · exact rim_in hp' hp (N.pos h3') (N.pos h1) h4' h2 (N.out h3' a ma) (N.out h1 a' ma') (by rw [d3_swap2]; omega) la0' (la1' a ma hne) (la1' b mb (Ne.symm hab')) la0 (la1 a' ma' (Ne.symm hne)) (la1 b mb (Ne.symm hab))
  · exact rim_in hp hp' (N.pos h3) (N.pos h1') h4 h2' (N.out h3 a' ma') (N.out h1' a ma) k la0 (la1 a' ma' (Ne.symm hne)) (la1 b mb (Ne.symm hab)) la0' (la1' a ma hne) (la1' b mb (Ne.symm hab'))

theorem Net.rim_out_uniq (N : Net V vs Tr) (sep : Sep V vs) {a b b' : Int} (h : Rim V Tr p a b) (h' : Rim V Tr p a b') : b = b' := by
  have hp := N.rim_pos h
  have hp' := N.rim_pos h'
  obtain ⟨c, y, h1, h2, h3, h4⟩ := h
  obtain ⟨c', y', h1', h2', h3', h4'⟩ := h'
  have ma := N.mem h1
  have mb := N.mem h3
  have mb' := N.mem h3'
  refine Classical.byContradiction fun hne => ?_
  have hab : a ≠ b := by intro e; subst e; have := N.pos h1; rw [d3_aab] at this; omega
  have hab' : a ≠ b' := by intro e; subst e; have := N.pos h1'; rw [d3_aab] at this; omega
  obtain ⟨lb, _, lb0, lb1⟩ := (sep b mb).2
  obtain ⟨lb', _, lb0', lb1'⟩ := (sep b' mb').2
  rcases Int.lt_or_le (d3 (V a) (V b') (V b)) 0 with k | k
  · exact rim_out hp' hp (N.pos h3') (N.pos h1) h4' h2 (N.out h3' b mb) (N.out h1 b' mb') (by rw [d3_swap2]; omega) lb0' (lb1' b mb hne) (lb1' a ma hab') lb0 (lb1 b' mb' (Ne.symm hne)) (lb1 a ma hab)
  · exact rim_out hp hp' (N.pos h3) (N.pos h1') h4 h2' (N.out h3 b' mb') (N.out h1' b mb) k lb0 (lb1 b' mb' (Ne.symm hne)) (lb1 a ma hab) lb0' (lb1' b mb hne) (lb1' a ma hab')

/-- the triangles around b that p lies below, by their first points -/
theorem Net.around (N : Net V vs Tr) (hnd : vs.Nodup) (b : Int) : ∃ (L : List Int) (f : Int → Int), L.Nodup ∧ (∀ c, c ∈ L ↔ ∃ x, Tr c b x ∧ 0 < kk (V c) (V b) (V x) (V p)) ∧ (∀ c ∈ L, Tr c b (f c)) ∧ (L.map f).Nodup := by
  classical
  refine ⟨vs.filter (fun c => decide (∃ x, Tr c b x ∧ 0 < kk (V c) (V b) (V x) (V p))), fun c => if h : ∃ x, Tr c b x then Classical.choose h else c, hnd.filter _, ?_, ?_, ?_⟩
  · intro c
    rw [List.mem_filter, decide_eq_true_eq]
    refine ⟨fun h => h.2, fun h => ⟨?_, h⟩⟩
    obtain ⟨x, hx, _⟩ := h
    exact N.mem hx
  · intro c hc
    rw [List.mem_filter, decide_eq_true_eq] at hc
    obtain ⟨_, x, hx, _⟩ := hc
    have h : ∃ x, Tr c b x := ⟨x, hx⟩
    dsimp only
    rw [dif_pos h]
    exact Classical.choose_spec h
  · refine nodup_map_on _ _ (hnd.filter _) ?_
    intro c hc d hd e
    rw [List.mem_filter, decide_eq_true_eq] at hc hd
    obtain ⟨_, x, hx, _⟩ := hc
    obtain ⟨_, y, hy, _⟩ := hd
    have h : ∃ x, Tr c b x := ⟨x, hx⟩
    have h' : ∃ x, Tr d b x := ⟨y, hy⟩
    rw [dif_pos h, dif_pos h'] at e
    have s := Classical.choose_spec h
    have s' := Classical.choose_spec h'
    rw [e] at s
    exact N.fn (N.rot s) (N.rot s')

theorem Net.rim_out_ex (N : Net V vs Tr) (hnd : vs.Nodup) {a b : Int} (h : Rim V Tr p a b) : ∃ c, Rim V Tr p b c := by
  obtain ⟨L, f, hL, hm, hf, hfn⟩ := N.around (p := p) hnd b
  refine Classical.byContradiction fun hno => ?_
  have hsub : ∀ c ∈ L.map f, c ∈ L := by
    intro c hc
    obtain ⟨d, hd, rfl⟩ := List.mem_map.1 hc
    obtain ⟨x, hx, hk⟩ := (hm d).1 hd
    have e := N.fn hx (hf d hd)
    subst e
    obtain ⟨y, hy⟩ := N.pair (N.rot hx)
    rw [hm]
    refine ⟨y, hy, ?_⟩
    rcases Int.lt_or_le 0 (kk (V (f d)) (V b) (V y) (V p)) with k | k
    · exact k
    · refine absurd ⟨f d, d, y, N.rot hx, ?_, hy, k⟩ hno
      rw [kk_rot]; exact hk
  obtain ⟨c, d, h1, h2, h3, h4⟩ := h
  have haL : a ∈ L := (hm a).2 ⟨c, h1, h2⟩
  have hna : a ∉ L.map f := by
    intro hc
    obtain ⟨e, he, ef⟩ := List.mem_map.1 hc
    obtain ⟨x, hx, hk⟩ := (hm e).1 he
    have e1 := N.fn hx (hf e he)
    subst e1
    have t := N.rot hx
    rw [ef] at t
    have e2 := N.fn t h3
    subst e2
    rw [ef, ← kk_rot] at hk
    omega
  have := len_le (a :: L.map f) L (List.nodup_cons.2 ⟨hna, hfn⟩) (fun q hq => by
    rcases List.mem_cons.1 hq with rfl | hq
    · exact haL
    · exact hsub q hq)
  simp at this
  omega

theorem Net.rim_in_ex (N : Net V vs Tr) (hnd : vs.Nodup) {b c : Int} (h : Rim V Tr p b c) : ∃ a, Rim V Tr p a b := by
  obtain ⟨L, f, hL, hm, hf, hfn⟩ := N.around (p := p) hnd b
  refine Classical.byContradiction fun hno => ?_
  have hsub : ∀ c ∈ L, c ∈ L.map f := by
    intro c hc
    obtain ⟨x, hx, hk⟩ := (hm c).1 hc
    obtain ⟨y, hy⟩ := N.pair hx
    rcases Int.lt_or_le 0 (kk (V b) (V c) (V y) (V p)) with k | k
    · have t : Tr y b c := N.rot (N.rot hy)
      have hyL : y ∈ L := (hm y).2 ⟨c, t, by rw [← kk_rot]; exact k⟩
      exact List.mem_map.2 ⟨y, hyL, N.fn (hf y hyL) t⟩
    · exact absurd ⟨c, x, y, hx, hk, hy, k⟩ hno
  obtain ⟨x, d, h1, h2, h3, h4⟩ := h
  have hcL : c ∉ L := by
    intro hc
    obtain ⟨y, hy, hk⟩ := (hm c).1 hc
    have := N.fn hy h3
    subst this
    omega
  have hcm : c ∈ L.map f := by
    have t : Tr x b c := N.rot (N.rot h1)
    have hx : x ∈ L := (hm x).2 ⟨c, t, by rw [← kk_rot]; exact h2⟩
    exact List.mem_map.2 ⟨x, hx, N.fn (hf x hx) t⟩
  have := len_le (c :: L) (L.map f) (List.nodup_cons.2 ⟨hcL, hL⟩) (fun q hq => by
    rcases List.mem_cons.1 hq with rfl | hq
    · exact hcm
    · exact hsub q hq)
  simp at this
  omega

/-- a new point lies below some plane -/
theorem Net.hole_ne (N : Net V vs Tr) (hp : p ∉ vs) (sep : Sep V (p :: vs)) : ∃ a b c, Tr a b c ∧ 0 < kk (V a) (V b) (V c) (V p) := by
  obtain ⟨a0, b0, c0, h0⟩ := N.ne
  obtain ⟨a, b, c, h, h1, h2, h3⟩ := cover N.toShut h0 (V p)
  obtain ⟨hw, l, lz, l0, l1⟩ := sep p (by simp)
  have ma := N.mem h
  have mb := N.mem (N.rot h)
  have mc := N.mem (N.rot (N.rot h))
  exact ⟨a, b, c, h, in_below (N.pos h) h2 h3 h1 l0 (l1 a (by simp [ma]) (fun e => hp (e ▸ ma))) (l1 b (by simp [mb]) (fun e => hp (e ▸ mb))) (l1 c (by simp [mc]) (fun e => hp (e ▸ mc))) lz hw⟩

def negV (v : Vec) : Vec := ⟨-v.x, -v.y, -v.w, -v.z⟩
theorem d3_neg (a b v : Vec) : d3 a b (negV v) = - d3 a b v := by unfold negV d3; grind

theorem Net.rim_ne (N : Net V vs Tr) (hp : p ∉ vs) (sep : Sep V (p :: vs)) : ∃ a b, Rim V Tr p a b := by
  refine Classical.byContradiction fun hno => ?_
  obtain ⟨a0, b0, c0, h0, k0⟩ := N.hole_ne hp sep
  have S : Shut V vs (fun a b c => Tr a b c ∧ 0 < kk (V a) (V b) (V c) (V p)) := by
    refine ⟨?_, ?_, ?_, ?_⟩
    · rintro a b c ⟨h, k⟩
      exact ⟨N.rot h, by rw [kk_rot]; exact k⟩
    · rintro a b c ⟨h, k⟩
      obtain ⟨d, hd⟩ := N.pair h
      refine ⟨d, hd, ?_⟩
      rcases Int.lt_or_le 0 (kk (V b) (V a) (V d) (V p)) with k' | k'
      · exact k'
      · exact absurd ⟨a, b, c, d, h, k, hd, k'⟩ hno
    · rintro a b c ⟨h, k⟩
      exact N.mem h
    · rintro a b c ⟨h, k⟩
      exact N.pos h
  obtain ⟨a, b, c, ⟨h, k⟩, h1, h2, h3⟩ := cover S ⟨h0, k0⟩ (negV (V p))
  rw [d3_neg] at h1 h2 h3
  have ma := N.mem h
  have mb := N.mem (N.rot h)
  have mc := N.mem (N.rot (N.rot h))
  obtain ⟨hw, l, lz, l0, l1⟩ := sep a (by simp [ma])
  have hpa : p ≠ a := fun e => hp (e ▸ ma)
  have hD := N.pos h
  have hba : b ≠ a := by intro e; subst e; rw [d3_aab] at hD; omega
  have hca : c ≠ a := by intro e; subst e; rw [d3_aba] at hD; omega
  exact not_opp hD (by omega) (by omega) (by omega) l0 (l1 p (by simp) hpa) (l1 b (by simp [mb]) hba) (l1 c (by simp [mc]) hca) lz k

theorem Net.rim_mem (N : Net V vs Tr) {a b : Int} (h : Rim V Tr p a b) : a ∈ vs ∧ b ∈ vs := by
  obtain ⟨c, d, h1, _, h3, _⟩ := h
  exact ⟨N.mem h1, N.mem h3⟩

/-- what an edge is, behind it -/
theorem Net.edge_kind (N : Net V vs Tr) (hp : p ∉ vs) {a b x : Int} (h : addTr V Tr p a b x) :
    ((∃ y, Tr a b y) ∧ a ∈ vs ∧ b ∈ vs ∧ ∃ r s t, Tr r s t ∧ kk (V r) (V s) (V t) (V p) ≤ 0 ∧ kk (V r) (V s) (V t) (V a) = 0 ∧ kk (V r) (V s) (V t) (V b) = 0) ∨
    (a = p ∧ b ∈ vs ∧ ∃ u v w, Tr u v w ∧ 0 < kk (V u) (V v) (V w) (V p) ∧ kk (V u) (V v) (V w) (V b) = 0) ∨
    (b = p ∧ a ∈ vs ∧ ∃ u v w, Tr u v w ∧ 0 < kk (V u) (V v) (V w) (V p) ∧ kk (V u) (V v) (V w) (V a) = 0) := by
  rcases h with ⟨h, k⟩ | ⟨h, rfl⟩ | ⟨h, rfl⟩ | ⟨h, rfl⟩
  · exact .inl ⟨⟨x, h⟩, N.mem h, N.mem (N.rot h), a, b, x, h, k, kk_a _ _ _, kk_b _ _ _⟩
  · have m := N.rim_mem h
    obtain ⟨c, d, h1, h2, h3, h4⟩ := h
    exact .inl ⟨⟨c, h1⟩, m.1, m.2, b, a, d, h3, h4, kk_b _ _ _, kk_a _ _ _⟩
  · have m := N.rim_mem h
    obtain ⟨c, d, h1, h2, h3, h4⟩ := h
    exact .inr (.inl ⟨rfl, m.1, b, x, c, h1, h2, kk_a _ _ _⟩)
  · have m := N.rim_mem h
    obtain ⟨c, d, h1, h2, h3, h4⟩ := h
    exact .inr (.inr ⟨rfl, m.2, x, a, c, h1, h2, kk_b _ _ _⟩)

theorem Net.add (N : Net V vs Tr) (hnd : vs.Nodup) (hp : p ∉ vs) (sep : Sep V (p :: vs)) : Net V (p :: vs) (addTr V Tr p) := by
  have sep' : Sep V vs := fun a ha => by
    obtain ⟨hw, l, lz, l0, l1⟩ := sep a (by simp [ha])
    exact ⟨hw, l, lz, l0, fun b hb => l1 b (by simp [hb])⟩
  have notp : ∀ {a}, a ∈ vs → a ≠ p := fun ha e => hp (e ▸ ha)
  refine { rot := ?_, pair := ?_, mem := ?_, pos := ?_, fn := ?_, out := ?_, ncr := ?_, ne := ?_ }
  · rintro a b c (⟨h, k⟩ | ⟨h, e⟩ | ⟨h, e⟩ | ⟨h, e⟩)
    · exact .inl ⟨N.rot h, by rw [kk_rot]; exact k⟩
    · exact .inr (.inr (.inr ⟨h, e⟩))
    · exact .inr (.inl ⟨h, e⟩)
    · exact .inr (.inr (.inl ⟨h, e⟩))
  · rintro a b c (⟨h, k⟩ | ⟨h, rfl⟩ | ⟨h, rfl⟩ | ⟨h, rfl⟩)
    · obtain ⟨d, hd⟩ := N.pair h
      rcases Int.lt_or_le 0 (kk (V b) (V a) (V d) (V p)) with k' | k'
      · exact ⟨p, .inr (.inl ⟨⟨d, c, hd, k', h, k⟩, rfl⟩)⟩
      · exact ⟨d, .inl ⟨hd, k'⟩⟩
    · obtain ⟨x, d, _, _, h3, h4⟩ := h
      exact ⟨d, .inl ⟨h3, h4⟩⟩
    · obtain ⟨z, hz⟩ := N.rim_in_ex hnd h
      exact ⟨z, .inr (.inr (.inr ⟨hz, rfl⟩))⟩
    · obtain ⟨z, hz⟩ := N.rim_out_ex hnd h
      exact ⟨z, .inr (.inr (.inl ⟨hz, rfl⟩))⟩
  · rintro a b c (⟨h, k⟩ | ⟨h, rfl⟩ | ⟨h, rfl⟩ | ⟨h, rfl⟩)
    · have := N.mem h; simp [this]
    · have := (N.rim_mem h).1; simp [this]
    · simp
    · have := (N.rim_mem h).2; simp [this]
  · rintro a b c (⟨h, k⟩ | ⟨h, rfl⟩ | ⟨h, rfl⟩ | ⟨h, rfl⟩)
    · exact N.pos h
    · exact N.rim_pos h
    · rw [← d3_rot]; exact N.rim_pos h
    · have := N.rim_pos h; rw [d3_rot, d3_rot] at this; exact this
  · intro a b c d h h'
    rcases h with ⟨h, k⟩ | ⟨h, e⟩ | ⟨h, e⟩ | ⟨h, e⟩ <;> rcases h' with ⟨h', k'⟩ | ⟨h', e'⟩ | ⟨h', e'⟩ | ⟨h', e'⟩
    · exact N.fn h h'
    · obtain ⟨x, y, h1, h2, _, _⟩ := h'
      have := N.fn h h1; subst this; omega
    · exact absurd e' (notp (N.mem h))
    · exact absurd e' (notp (N.mem (N.rot h)))
    · obtain ⟨x, y, h1, h2, _, _⟩ := h
      have := N.fn h' h1; subst this; omega
    · rw [e, e']
    · exact absurd e' (notp (N.rim_mem h).1)
    · exact absurd e' (notp (N.rim_mem h).2)
    · exact absurd e (notp (N.mem h'))
    · exact absurd e (notp (N.rim_mem h').1)
    · exact N.rim_out_uniq sep' h h'
    · exact absurd e' (notp (N.rim_mem h).1)
    · exact absurd e (notp (N.mem (N.rot h')))
    · exact absurd e (notp (N.rim_mem h').2)
    · exact absurd e (notp (N.rim_mem h').1)
    · exact N.rim_in_uniq sep' h h'
  · have rimk : ∀ {a b}, Rim V Tr p a b → ∀ q ∈ p :: vs, kk (V a) (V b) (V p) (V q) ≤ 0 := by
      intro a b h q hq
      have hpos := N.rim_pos h
      rcases List.mem_cons.1 hq with rfl | hq
      · rw [kk_c]; omega
      · obtain ⟨c, d, h1, h2, h3, h4⟩ := h
        exact new_out (N.pos h1) (N.pos h3) hpos h2 h4 (N.out h1 q hq) (N.out h3 q hq)
    rintro a b c (⟨h, k⟩ | ⟨h, rfl⟩ | ⟨h, rfl⟩ | ⟨h, rfl⟩) q hq
    · rcases List.mem_cons.1 hq with rfl | hq
      · exact k
      · exact N.out h q hq
    · exact rimk h q hq
    · rw [← kk_rot]; exact rimk h q hq
    · have := rimk h q hq; rw [kk_rot, kk_rot] at this; exact this
  · intro a b x c d y h h' hc
    have k := N.edge_kind hp h
    have k' := N.edge_kind hp h'
    rcases k with ⟨⟨x1, g1⟩, ma, mb, r, s, t, g2, g3, g4, g5⟩ | ⟨rfl, mb, u, v, w, g1, g2, g3⟩ | ⟨rfl, ma, u, v, w, g1, g2, g3⟩
    · rcases k' with ⟨⟨x1', g1'⟩, mc, md, r', s', t', g2', g3', g4', g5'⟩ | ⟨rfl, md, u', v', w', g1', g2', g3'⟩ | ⟨rfl, mc, u', v', w', g1', g2', g3'⟩
      · exact N.ncr g1 g1' hc
      · exact no_cross (N.pos g1') (N.pos g2) g3' g2' (N.out g1' a ma) (N.out g1' b mb) g4 g5 (N.out g2 d md) g3 hc.flip.turn
      · exact no_cross (N.pos g1') (N.pos g2) g3' g2' (N.out g1' b mb) (N.out g1' a ma) g5 g4 (N.out g2 c mc) g3 hc.flip
    · rcases k' with ⟨⟨x1', g1'⟩, mc, md, r', s', t', g2', g3', g4', g5'⟩ | ⟨e, md, _⟩ | ⟨e, mc, _⟩
      · exact no_cross (N.pos g1) (N.pos g2') g3 g2 (N.out g1 d md) (N.out g1 c mc) g5' g4' (N.out g2' b mb) g3' hc.turn
      · have := hc.2.1; rw [e, d3_aab] at this; omega
      · have := hc.2.1; rw [e, d3_aba] at this; omega
    · rcases k' with ⟨⟨x1', g1'⟩, mc, md, r', s', t', g2', g3', g4', g5'⟩ | ⟨e, md, _⟩ | ⟨e, mc, _⟩
      · exact no_cross (N.pos g1) (N.pos g2') g3 g2 (N.out g1 c mc) (N.out g1 d md) g4' g5' (N.out g2' a ma) g3' hc
      · have := hc.1; rw [e, d3_aab] at this; omega
      · have := hc.1; rw [e, d3_aba] at this; omega
  · obtain ⟨a, b, h⟩ := N.rim_ne hp sep
    exact ⟨a, b, p, .inr (.inl ⟨h, rfl⟩)⟩
end
end Go.Proofs.YtgpapegpdfonpaaGreatDoor

namespace Go.Proofs.YtgpapegpdfonpaaGreatDoor
set_option linter.unusedVariables false
set_option linter.unusedSimpArgs false

def lift (q : Pt) : Vec := ⟨q.1, q.2, 1, q.1 * q.1 + q.2 * q.2⟩
def BIG : Int := 100000000000000000000
def apex (a b c : Pt) : Vec := ⟨-(a.1 + b.1 + c.1), -(a.2 + b.2 + c.2), -3, BIG - ((a.1 * a.1 + a.2 * a.2) + (b.1 * b.1 + b.2 * b.2) + (c.1 * c.1 + c.2 * c.2))⟩
def VV (P : Int → Pt) (a b c : Int) (i : Int) : Vec := if i < 0 then apex (P a) (P b) (P c) else lift (P i)
theorem VV_neg (P : Int → Pt) (a b c : Int) : VV P a b c (-1) = apex (P a) (P b) (P c) := rfl
theorem VV_pos (P : Int → Pt) (a b c : Int) {i : Int} (h : 0 ≤ i) : VV P a b c i = lift (P i) := by unfold VV; rw [if_neg (by omega)]

/-- within the circle -/
def cc (a b c d : Pt) : Int :=
  ((a.1 - d.1) * (a.1 - d.1) + (a.2 - d.2) * (a.2 - d.2)) * ((b.1 - d.1) * (c.2 - d.2) - (b.2 - d.2) * (c.1 - d.1)) +
  ((b.1 - d.1) * (b.1 - d.1) + (b.2 - d.2) * (b.2 - d.2)) * ((c.1 - d.1) * (a.2 - d.2) - (c.2 - d.2) * (a.1 - d.1)) +
  ((c.1 - d.1) * (c.1 - d.1) + (c.2 - d.2) * (c.2 - d.2)) * ((a.1 - d.1) * (b.2 - d.2) - (a.2 - d.2) * (b.1 - d.1))

theorem d3_lift (a b c : Pt) : d3 (lift a) (lift b) (lift c) = sd a b c := by unfold d3 lift sd; grind
theorem kk_lift (a b c d : Pt) : kk (lift a) (lift b) (lift c) (lift d) = cc a b c d := by unfold kk d3 lift cc; grind
theorem d3_apex (u v a b c : Pt) : d3 (lift u) (lift v) (apex a b c) = -(sd u v a + sd u v b + sd u v c) := by unfold d3 lift apex sd; grind
theorem cc_line (u v x q : Pt) : cc u v x q = -(sd u v x) * dt u v q + sd u v q * dt u v x := by unfold cc sd dt; grind
theorem kk_last (a b c p : Vec) : kk a b p c = - kk a b c p := by unfold kk d3; grind
theorem kk_swap (a b c p : Vec) : kk b a c p = - kk a b c p := by unfold kk d3; grind
theorem kk_apex (u v a b c q : Pt) : kk (lift u) (lift v) (apex a b c) (lift q) = BIG * sd u v q - (cc u v a q + cc u v b q + cc u v c q) := by
  rw [← kk_lift, ← kk_lift, ← kk_lift]
  unfold kk d3 lift apex sd
  grind

def NearP (q : Pt) : Prop := -8000 ≤ q.1 ∧ q.1 ≤ 8000 ∧ -8000 ≤ q.2 ∧ q.2 ≤ 8000

theorem abs_mul_le {a b A B : Int} (h1 : -A ≤ a) (h2 : a ≤ A) (h3 : -B ≤ b) (h4 : b ≤ B) : -(A * B) ≤ a * b ∧ a * b ≤ A * B := by
  have hA : 0 ≤ A := by omega
  have hB : 0 ≤ B := by omega
  have k1 : 0 ≤ (A - a) * (B - b) := mnn (by omega) (by omega)
  have k2 : 0 ≤ (A + a) * (B + b) := mnn (by omega) (by omega)
  have k3 : 0 ≤ (A - a) * (B + b) := mnn (by omega) (by omega)
  have k4 : 0 ≤ (A + a) * (B - b) := mnn (by omega) (by omega)
  constructor <;> grind

theorem diff_le {a d : Int} (h : -8000 ≤ a ∧ a ≤ 8000) (k : -8000 ≤ d ∧ d ≤ 8000) : -16000 ≤ a - d ∧ a - d ≤ 16000 := by omega

theorem cc_le {a b c d : Pt} (ha : NearP a) (hb : NearP b) (hc : NearP c) (hd : NearP d) : -1000000000000000000 ≤ cc a b c d ∧ cc a b c d ≤ 1000000000000000000 := by
  obtain ⟨a1, a2, a3, a4⟩ := ha
  obtain ⟨b1, b2, b3, b4⟩ := hb
  obtain ⟨c1, c2, c3, c4⟩ := hc
  obtain ⟨e1, e2, e3, e4⟩ := hd
  unfold cc
  have x1 := diff_le ⟨a1, a2⟩ ⟨e1, e2⟩
  have x2 := diff_le ⟨a3, a4⟩ ⟨e3, e4⟩
  have y1 := diff_le ⟨b1, b2⟩ ⟨e1, e2⟩
  have y2 := diff_le ⟨b3, b4⟩ ⟨e3, e4⟩
  have z1 := diff_le ⟨c1, c2⟩ ⟨e1, e2⟩
  have z2 := diff_le ⟨c3, c4⟩ ⟨e3, e4⟩
  generalize a.1 - d.1 = ax at *
  generalize a.2 - d.2 = ay at *
  generalize b.1 - d.1 = bx at *
  generalize b.2 - d.2 = b_y at *
  generalize c.1 - d.1 = cx at *
  generalize c.2 - d.2 = cy at *
  have p1 := abs_mul_le x1.1 x1.2 x1.1 x1.2
  have p2 := abs_mul_le x2.1 x2.2 x2.1 x2.2
  have p3 := abs_mul_le y1.1 y1.2 y1.1 y1.2
  have p4 := abs_mul_le y2.1 y2.2 y2.1 y2.2
  have p5 := abs_mul_le z1.1 z1.2 z1.1 z1.2
  have p6 := abs_mul_le z2.1 z2.2 z2.1 z2.2
  have q1 := abs_mul_le y1.1 y1.2 z2.1 z2.2
  have q2 := abs_mul_le y2.1 y2.2 z1.1 z1.2
  have q3 := abs_mul_le z1.1 z1.2 x2.1 x2.2
  have q4 := abs_mul_le z2.1 z2.2 x1.1 x1.2
  have q5 := abs_mul_le x1.1 x1.2 y2.1 y2.2
  have q6 := abs_mul_le x2.1 x2.2 y1.1 y1.2
  have t1 := abs_mul_le (A := 512000000) (B := 512000000) (a := ax * ax + ay * ay) (b := bx * cy - b_y * cx) (by omega) (by omega) (by omega) (by omega)
  have t2 := abs_mul_le (A := 512000000) (B := 512000000) (a := bx * bx + b_y * b_y) (b := cx * ay - cy * ax) (by omega) (by omega) (by omega) (by omega)
  have t3 := abs_mul_le (A := 512000000) (B := 512000000) (a := cx * cx + cy * cy) (b := ax * b_y - ay * bx) (by omega) (by omega) (by omega) (by omega)
  omega

/-- a point beyond, seen from an edge: by its side; on its line by what lies between -/
theorem ghost_sign {u v a b c q : Pt} (hu : NearP u) (hv : NearP v) (ha : NearP a) (hb : NearP b) (hc : NearP c) (hq : NearP q) :
    (0 < sd u v q → 0 < kk (lift u) (lift v) (apex a b c) (lift q)) ∧ (sd u v q < 0 → kk (lift u) (lift v) (apex a b c) (lift q) < 0) ∧
    (sd u v q = 0 → kk (lift u) (lift v) (apex a b c) (lift q) = - (d3 (lift u) (lift v) (apex a b c) * dt u v q)) := by
  rw [kk_apex, d3_apex]
  have h1 := cc_le hu hv ha hq
  have h2 := cc_le hu hv hb hq
  have h3 := cc_le hu hv hc hq
  refine ⟨fun h => ?_, fun h => ?_, fun h => ?_⟩
  · unfold BIG; omega
  · unfold BIG; omega
  · rw [cc_line u v a q, cc_line u v b q, cc_line u v c q, h]; grind

theorem sq_pos' {x : Int} (h : x ≠ 0) : 0 < x * x := by
  rcases Int.lt_or_le 0 x with k | k
  · exact mpp k k
  · exact mmm (by omega) (by omega)
theorem sq_nn (x : Int) : 0 ≤ x * x := by
  rcases Int.le_total 0 x with k | k
  · exact mnn k k
  · exact mqq k k

theorem sep_VV {P : Int → Pt} {a b c : Int} {us : List Int} (ha : NearP (P a)) (hb : NearP (P b)) (hc : NearP (P c)) (hu : ∀ i ∈ us, i = -1 ∨ (0 ≤ i ∧ NearP (P i)))
    (hinj : ∀ i ∈ us, ∀ j ∈ us, 0 ≤ i → 0 ≤ j → P i = P j → i = j) : Sep (VV P a b c) us := by
  have dist : ∀ u v : Pt, NearP u → NearP v → (u.1 - v.1) * (u.1 - v.1) + (u.2 - v.2) * (u.2 - v.2) ≤ 512000000 := by
    intro u v hu hv
    obtain ⟨a1, a2, a3, a4⟩ := hu
    obtain ⟨b1, b2, b3, b4⟩ := hv
    have x := diff_le ⟨a1, a2⟩ ⟨b1, b2⟩
    have y := diff_le ⟨a3, a4⟩ ⟨b3, b4⟩
    have p1 := abs_mul_le x.1 x.2 x.1 x.2
    have p2 := abs_mul_le y.1 y.2 y.1 y.2
    omega
  have z0 : NearP (0, 0) := by unfold NearP; omega
  have na := dist _ _ ha z0
  have nb := dist _ _ hb z0
  have nc := dist _ _ hc z0
  simp only [Int.sub_zero] at na nb nc
  intro i hi
  rcases hu i hi with rfl | ⟨h0, hn⟩
  · rw [VV_neg]
    refine ⟨by unfold apex; dsimp only; omega, ⟨0, 0, BIG - (((P a).1 * (P a).1 + (P a).2 * (P a).2) + ((P b).1 * (P b).1 + (P b).2 * (P b).2) + ((P c).1 * (P c).1 + (P c).2 * (P c).2)), 3⟩, by dsimp only; omega, by unfold dot apex; dsimp only; grind, ?_⟩
    intro j hj hne
    rcases hu j hj with rfl | ⟨h1, hn1⟩
    · exact absurd rfl hne
    · rw [VV_pos _ _ _ _ h1]
      unfold dot lift BIG
      dsimp only
      have := sq_nn (P j).1
      have := sq_nn (P j).2
      omega
  · rw [VV_pos _ _ _ _ h0]
    refine ⟨by unfold lift; dsimp only; omega, ⟨-(2 * (P i).1), -(2 * (P i).2), (P i).1 * (P i).1 + (P i).2 * (P i).2, 1⟩, by dsimp only; omega, by unfold dot lift; dsimp only; grind, ?_⟩
    intro j hj hne
    rcases hu j hj with rfl | ⟨h1, hn1⟩
    · rw [VV_neg]
      have d1 := dist _ _ ha hn
      have d2 := dist _ _ hb hn
      have d3 := dist _ _ hc hn
      have e : dot ⟨-(2 * (P i).1), -(2 * (P i).2), (P i).1 * (P i).1 + (P i).2 * (P i).2, 1⟩ (apex (P a) (P b) (P c)) = BIG - (((P a).1 - (P i).1) * ((P a).1 - (P i).1) + ((P a).2 - (P i).2) * ((P a).2 - (P i).2)) - (((P b).1 - (P i).1) * ((P b).1 - (P i).1) + ((P b).2 - (P i).2) * ((P b).2 - (P i).2)) - (((P c).1 - (P i).1) * ((P c).1 - (P i).1) + ((P c).2 - (P i).2) * ((P c).2 - (P i).2)) := by
        unfold dot apex; dsimp only; grind
      rw [e]
      unfold BIG
      omega
    · rw [VV_pos _ _ _ _ h1]
      have e : dot ⟨-(2 * (P i).1), -(2 * (P i).2), (P i).1 * (P i).1 + (P i).2 * (P i).2, 1⟩ (lift (P j)) = ((P j).1 - (P i).1) * ((P j).1 - (P i).1) + ((P j).2 - (P i).2) * ((P j).2 - (P i).2) := by
        unfold dot lift; dsimp only; grind
      rw [e]
      have s1 := sq_nn ((P j).1 - (P i).1)
      have s2 := sq_nn ((P j).2 - (P i).2)
      by_cases e1 : (P j).1 = (P i).1
      · have e2 : (P j).2 ≠ (P i).2 := fun e2 => hne (hinj j hj i hi h1 h0 (Prod.ext e1 e2))
        have := sq_pos' (show (P j).2 - (P i).2 ≠ 0 by omega)
        omega
      · have := sq_pos' (show (P j).1 - (P i).1 ≠ 0 by omega)
        omega

/-- a triangle and all its turns -/
def rots (a b c x y z : Int) : Prop := (x = a ∧ y = b ∧ z = c) ∨ (x = b ∧ y = c ∧ z = a) ∨ (x = c ∧ y = a ∧ z = b)
def firstTr (a b c x y z : Int) : Prop := rots a b c x y z ∨ rots b a (-1) x y z ∨ rots c b (-1) x y z ∨ rots a c (-1) x y z

theorem first_rot {a b c x y z : Int} (h : firstTr a b c x y z) : firstTr a b c y z x := by
  unfold firstTr rots at h
  rcases h with (⟨rfl, rfl, rfl⟩ | ⟨rfl, rfl, rfl⟩ | ⟨rfl, rfl, rfl⟩) | (⟨rfl, rfl, rfl⟩ | ⟨rfl, rfl, rfl⟩ | ⟨rfl, rfl, rfl⟩) | (⟨rfl, rfl, rfl⟩ | ⟨rfl, rfl, rfl⟩ | ⟨rfl, rfl, rfl⟩) | (⟨rfl, rfl, rfl⟩ | ⟨rfl, rfl, rfl⟩ | ⟨rfl, rfl, rfl⟩) <;> simp [firstTr, rots]
theorem first_pair {a b c x y z : Int} (h : firstTr a b c x y z) : ∃ w, firstTr a b c y x w := by
  unfold firstTr rots at h
  rcases h with (⟨rfl, rfl, rfl⟩ | ⟨rfl, rfl, rfl⟩ | ⟨rfl, rfl, rfl⟩) | (⟨rfl, rfl, rfl⟩ | ⟨rfl, rfl, rfl⟩ | ⟨rfl, rfl, rfl⟩) | (⟨rfl, rfl, rfl⟩ | ⟨rfl, rfl, rfl⟩ | ⟨rfl, rfl, rfl⟩) | (⟨rfl, rfl, rfl⟩ | ⟨rfl, rfl, rfl⟩ | ⟨rfl, rfl, rfl⟩)
  · exact ⟨-1, by simp [firstTr, rots]⟩
  · exact ⟨-1, by simp [firstTr, rots]⟩
  · exact ⟨-1, by simp [firstTr, rots]⟩
  · exact ⟨c, by simp [firstTr, rots]⟩
  · exact ⟨c, by simp [firstTr, rots]⟩
  · exact ⟨c, by simp [firstTr, rots]⟩
  · exact ⟨a, by simp [firstTr, rots]⟩
  · exact ⟨a, by simp [firstTr, rots]⟩
  · exact ⟨a, by simp [firstTr, rots]⟩
  · exact ⟨b, by simp [firstTr, rots]⟩
  · exact ⟨b, by simp [firstTr, rots]⟩
  · exact ⟨b, by simp [firstTr, rots]⟩

theorem four {a b c d : Vec} (hx : a.x + b.x + c.x + d.x = 0) (hy : a.y + b.y + c.y + d.y = 0) (hw : a.w + b.w + c.w + d.w = 0) : d3 a b d = - d3 a c d := by
  have e1 : b.x = -(a.x + c.x + d.x) := by omega
  have e2 : b.y = -(a.y + c.y + d.y) := by omega
  have e3 : b.w = -(a.w + c.w + d.w) := by omega
  unfold d3
  rw [e1, e2, e3]
  grind

set_option maxHeartbeats 2000000 in
theorem first_net {P : Int → Pt} {a b c : Int} (ha : 0 ≤ a) (hb : 0 ≤ b) (hc : 0 ≤ c) (hs : 0 < sd (P a) (P b) (P c)) (na : NearP (P a)) (nb : NearP (P b)) (nc : NearP (P c)) :
    Net (VV P a b c) [-1, a, b, c] (firstTr a b c) := by
  have hab : a ≠ b := by intro e; subst e; unfold sd at hs; grind
  have hac : a ≠ c := by intro e; subst e; unfold sd at hs; grind
  have hbc : b ≠ c := by intro e; subst e; unfold sd at hs; grind
  generalize hA : VV P a b c a = A
  generalize hB : VV P a b c b = B
  generalize hC : VV P a b c c = C
  generalize hO : VV P a b c (-1) = O
  have lA : A = lift (P a) := by rw [← hA, VV_pos _ _ _ _ ha]
  have lB : B = lift (P b) := by rw [← hB, VV_pos _ _ _ _ hb]
  have lC : C = lift (P c) := by rw [← hC, VV_pos _ _ _ _ hc]
  have lO : O = apex (P a) (P b) (P c) := by rw [← hO, VV_neg]
  have sx : A.x + B.x + C.x + O.x = 0 := by rw [lA, lB, lC, lO]; unfold lift apex; dsimp only; omega
  have sy : A.y + B.y + C.y + O.y = 0 := by rw [lA, lB, lC, lO]; unfold lift apex; dsimp only; omega
  have sw : A.w + B.w + C.w + O.w = 0 := by rw [lA, lB, lC, lO]; unfold lift apex; dsimp only; omega
  have hD : 0 < d3 A B C := by rw [lA, lB, lC, d3_lift]; exact hs
  have hK : kk A B C O < 0 := by
    have : kk A B C O = - (BIG * sd (P a) (P b) (P c)) := by
      have := kk_apex (P a) (P b) (P a) (P b) (P c) (P c)
      rw [kk_last, ← lA, ← lB, ← lC, ← lO] at this
      have e1 : cc (P a) (P b) (P a) (P c) = 0 := by unfold cc; grind
      have e2 : cc (P a) (P b) (P b) (P c) = 0 := by unfold cc; grind
      have e3 : cc (P a) (P b) (P c) (P c) = 0 := by unfold cc; grind
      rw [e1, e2, e3] at this
      omega
    rw [this]; unfold BIG; omega
  have d1 : d3 B A O = d3 A B C := by
    have := four (a := B) (b := C) (c := A) (d := O) (by omega) (by omega) (by omega)
    have h2 := four (a := C) (b := O) (c := A) (d := B) (by omega) (by omega) (by omega)
    have h3 := d3_rot B C O; have h4 := d3_rot C O B; have h5 := d3_rot C A B; have h6 := d3_rot A B C
    have h7 := d3_rot O B C
    omega
  have d2 : d3 C B O = d3 A B C := by
    have h1 := four (a := B) (b := C) (c := A) (d := O) (by omega) (by omega) (by omega)
    have h2 := d3_swap B C O
    omega
  have d3' : d3 A C O = d3 A B C := by
    have h1 := four (a := A) (b := C) (c := B) (d := O) (by omega) (by omega) (by omega)
    have h2 := d3_swap A B O
    omega
  have k1 : kk B A O C = kk A B C O := by rw [kk_last, kk_swap]; omega
  have k2 : kk C B O A = kk A B C O := by rw [kk_last, kk_swap, kk_rot]; omega
  have k3 : kk A C O B = kk A B C O := by rw [kk_last, kk_swap, ← kk_rot, ← kk_rot]; omega
  have hmem : ∀ {x y z}, firstTr a b c x y z → (x = -1 ∨ x = a ∨ x = b ∨ x = c) ∧ (y = -1 ∨ y = a ∨ y = b ∨ y = c) ∧ x ≠ y := by
    intro x y z h; unfold firstTr rots at h; omega
  refine { rot := ?_, pair := ?_, mem := ?_, pos := ?_, fn := ?_, out := ?_, ncr := ?_, ne := ?_ }
  · intro x y z h; exact first_rot h
  · intro x y z h; exact first_pair h
  · intro x y z h; have := (hmem h).1; simp; omega
  · have key : ∀ {u v w x y z}, rots u v w x y z → 0 < d3 (VV P a b c u) (VV P a b c v) (VV P a b c w) → 0 < d3 (VV P a b c x) (VV P a b c y) (VV P a b c z) := by
      rintro u v w x y z (⟨rfl, rfl, rfl⟩ | ⟨rfl, rfl, rfl⟩ | ⟨rfl, rfl, rfl⟩) h
      · exact h
      · rw [d3_rot]; exact h
      · rw [← d3_rot]; exact h
    rintro x y z (h | h | h | h)
    · exact key h (by rw [hA, hB, hC]; exact hD)
    · exact key h (by rw [hA, hB, hO, d1]; exact hD)
    · exact key h (by rw [hC, hB, hO, d2]; exact hD)
    · exact key h (by rw [hA, hC, hO, d3']; exact hD)
  · intro x y z w h h'
    unfold firstTr rots at h h'
    rcases h with (⟨h1, h2, h3⟩ | ⟨h1, h2, h3⟩ | ⟨h1, h2, h3⟩) | (⟨h1, h2, h3⟩ | ⟨h1, h2, h3⟩ | ⟨h1, h2, h3⟩) | (⟨h1, h2, h3⟩ | ⟨h1, h2, h3⟩ | ⟨h1, h2, h3⟩) | (⟨h1, h2, h3⟩ | ⟨h1, h2, h3⟩ | ⟨h1, h2, h3⟩) <;> omega
  · have key : ∀ {u v w x y z q}, rots u v w x y z → kk (VV P a b c u) (VV P a b c v) (VV P a b c w) q ≤ 0 → kk (VV P a b c x) (VV P a b c y) (VV P a b c z) q ≤ 0 := by
      rintro u v w x y z q (⟨rfl, rfl, rfl⟩ | ⟨rfl, rfl, rfl⟩ | ⟨rfl, rfl, rfl⟩) h
      · exact h
      · rw [kk_rot]; exact h
      · rw [← kk_rot]; exact h
    have hle := Int.le_of_lt hK
    intro x y z h q hq
    have hq' : q = -1 ∨ q = a ∨ q = b ∨ q = c := by simpa using hq
    rcases h with h | h | h | h <;> refine key h ?_ <;> rcases hq' with rfl | rfl | rfl | rfl <;>
      simp only [hA, hB, hC, hO, kk_a, kk_b, kk_c, k1, k2, k3] <;> omega
  · intro x y z u v w h h' hc
    obtain ⟨hx, hy, hxy⟩ := hmem h
    obtain ⟨hu, hv, huv⟩ := hmem h'
    have nxu : x ≠ u := by intro e; subst e; have := hc.2.1; rw [d3_aab] at this; omega
    have nxv : x ≠ v := by intro e; subst e; have := hc.2.1; rw [d3_aba] at this; omega
    have nyu : y ≠ u := by intro e; subst e; have := hc.1; rw [d3_aab] at this; omega
    have nyv : y ≠ v := by intro e; subst e; have := hc.1; rw [d3_aba] at this; omega
    have : d3 (VV P a b c x) (VV P a b c y) (VV P a b c v) = - d3 (VV P a b c x) (VV P a b c u) (VV P a b c v) := by
      rcases hx with rfl | rfl | rfl | rfl <;> rcases hy with rfl | rfl | rfl | rfl <;> (try (exact absurd rfl hxy)) <;>
      rcases hu with rfl | rfl | rfl | rfl <;> (try (exact absurd rfl nxu)) <;> (try (exact absurd rfl nyu)) <;>
      rcases hv with rfl | rfl | rfl | rfl <;> (try (exact absurd rfl nxv)) <;> (try (exact absurd rfl nyv)) <;> (try (exact absurd rfl huv)) <;>
      (simp only [hA, hB, hC, hO]; apply four <;> omega)
    have := hc.2.1; have := hc.2.2.1; omega
  · exact ⟨a, b, c, .inl (.inl ⟨rfl, rfl, rfl⟩)⟩
end Go.Proofs.YtgpapegpdfonpaaGreatDoor

namespace Go.Proofs.YtgpapegpdfonpaaGreatDoor
set_option linter.unusedVariables false
set_option linter.unusedSimpArgs false

/-- a net over the points S; -1 stands for one beyond the boundary -/
structure NetOf (P : Int → Pt) (S : List Int) (a b c : Int) (Tr : Int → Int → Int → Prop) : Prop where
  net : ∃ vs : List Int, vs.Nodup ∧ (∀ i, i ∈ vs ↔ i = -1 ∨ i ∈ S) ∧ Net (VV P a b c) vs Tr
  nn : ∀ i ∈ S, 0 ≤ i
  near : ∀ i ∈ S, NearP (P i)
  inj : ∀ i ∈ S, ∀ j ∈ S, P i = P j → i = j
  ma : a ∈ S
  mb : b ∈ S
  mc : c ∈ S
  base : 0 < sd (P a) (P b) (P c)

section
variable {P : Int → Pt} {S : List Int} {a b c : Int} {Tr : Int → Int → Int → Prop}

theorem NetOf.start (ha : 0 ≤ a) (hb : 0 ≤ b) (hc : 0 ≤ c) (hs : 0 < sd (P a) (P b) (P c)) (na : NearP (P a)) (nb : NearP (P b)) (nc : NearP (P c)) :
    NetOf P [a, b, c] a b c (firstTr a b c) := by
  have hab : a ≠ b := by intro e; subst e; unfold sd at hs; grind
  have hac : a ≠ c := by intro e; subst e; unfold sd at hs; grind
  have hbc : b ≠ c := by intro e; subst e; unfold sd at hs; grind
  refine ⟨⟨[-1, a, b, c], ?_, by intro i; simp, first_net ha hb hc hs na nb nc⟩, ?_, ?_, ?_, by simp, by simp, by simp, hs⟩
  · simp [hab, hac, hbc]; omega
  · intro i hi; simp at hi; omega
  · intro i hi; simp at hi; rcases hi with rfl | rfl | rfl <;> assumption
  · intro i hi j hj e
    simp at hi hj
    have z1 : ∀ u v : Pt, sd u u v = 0 := by intro u v; unfold sd; grind
    have z2 : ∀ u v : Pt, sd u v u = 0 := by intro u v; unfold sd; grind
    have z3 : ∀ u v : Pt, sd u v v = 0 := by intro u v; unfold sd; grind
    rcases hi with rfl | rfl | rfl <;> rcases hj with rfl | rfl | rfl <;> (try rfl) <;> (rw [e] at hs; simp only [z1, z2, z3] at hs; omega)

theorem NetOf.add (N : NetOf P S a b c Tr) {p : Int} (hp : p ∉ S) (h0 : 0 ≤ p) (hn : NearP (P p)) (hd : ∀ i ∈ S, P i ≠ P p) : NetOf P (p :: S) a b c (addTr (VV P a b c) Tr p) := by
  obtain ⟨vs, hnd, hm, net⟩ := N.net
  have hpv : p ∉ vs := by
    rw [hm]; rintro (h | h)
    · omega
    · exact hp h
  have sep : Sep (VV P a b c) (p :: vs) := by
    refine sep_VV (N.near _ N.ma) (N.near _ N.mb) (N.near _ N.mc) ?_ ?_
    · intro i hi
      rcases List.mem_cons.1 hi with rfl | hi
      · exact .inr ⟨h0, hn⟩
      · rcases (hm i).1 hi with h | h
        · exact .inl h
        · exact .inr ⟨N.nn i h, N.near i h⟩
    · intro i hi j hj hi0 hj0 e
      have hi' : i = p ∨ i ∈ S := by
        rcases List.mem_cons.1 hi with h | h
        · exact .inl h
        · rcases (hm i).1 h with h | h
          · omega
          · exact .inr h
      have hj' : j = p ∨ j ∈ S := by
        rcases List.mem_cons.1 hj with h | h
        · exact .inl h
        · rcases (hm j).1 h with h | h
          · omega
          · exact .inr h
      rcases hi' with rfl | hi' <;> rcases hj' with rfl | hj'
      · rfl
      · exact absurd e.symm (hd j hj')
      · exact absurd e (hd i hi')
      · exact N.inj i hi' j hj' e
  refine ⟨⟨p :: vs, List.nodup_cons.2 ⟨hpv, hnd⟩, ?_, net.add hnd hpv sep⟩, ?_, ?_, ?_, by simp [N.ma], by simp [N.mb], by simp [N.mc], N.base⟩
  · intro i
    rw [List.mem_cons, List.mem_cons, hm]
    constructor
    · rintro (h | h | h)
      · exact .inr (.inl h)
      · exact .inl h
      · exact .inr (.inr h)
    · rintro (h | h | h)
      · exact .inr (.inl h)
      · exact .inl h
      · exact .inr (.inr h)
  · intro i hi; rcases List.mem_cons.1 hi with rfl | hi
    · exact h0
    · exact N.nn i hi
  · intro i hi; rcases List.mem_cons.1 hi with rfl | hi
    · exact hn
    · exact N.near i hi
  · intro i hi j hj e
    rcases List.mem_cons.1 hi with k | k <;> rcases List.mem_cons.1 hj with k' | k'
    · rw [k, k']
    · rw [k] at e; exact absurd e.symm (hd j k')
    · rw [k'] at e; exact absurd e (hd i k)
    · exact N.inj i k j k' e

theorem NetOf.rot (N : NetOf P S a b c Tr) {x y z : Int} (h : Tr x y z) : Tr y z x := by obtain ⟨vs, _, _, net⟩ := N.net; exact net.rot h
theorem NetOf.pair (N : NetOf P S a b c Tr) {x y z : Int} (h : Tr x y z) : ∃ w, Tr y x w := by obtain ⟨vs, _, _, net⟩ := N.net; exact net.pair h
theorem NetOf.fn (N : NetOf P S a b c Tr) {x y z w : Int} (h : Tr x y z) (h' : Tr x y w) : z = w := by obtain ⟨vs, _, _, net⟩ := N.net; exact net.fn h h'
theorem NetOf.lab (N : NetOf P S a b c Tr) {x y z : Int} (h : Tr x y z) : x = -1 ∨ x ∈ S := by obtain ⟨vs, _, hm, net⟩ := N.net; exact (hm x).1 (net.mem h)
theorem NetOf.pos (N : NetOf P S a b c Tr) {x y z : Int} (h : Tr x y z) : 0 < d3 (VV P a b c x) (VV P a b c y) (VV P a b c z) := by obtain ⟨vs, _, hm, net⟩ := N.net; exact net.pos h
theorem NetOf.ne12 (N : NetOf P S a b c Tr) {x y z : Int} (h : Tr x y z) : x ≠ y := by intro e; subst e; have := N.pos h; rw [d3_aab] at this; omega
theorem NetOf.mem (N : NetOf P S a b c Tr) {x y z : Int} (h : Tr x y z) (h0 : 0 ≤ x) : x ∈ S := by rcases N.lab h with h | h; omega; exact h
theorem NetOf.vv (N : NetOf P S a b c Tr) {x : Int} (h : x ∈ S) : VV P a b c x = lift (P x) := VV_pos _ _ _ _ (N.nn x h)

theorem NetOf.side (N : NetOf P S a b c Tr) {x y z : Int} (h : Tr x y z) (hx : x ∈ S) (hy : y ∈ S) (hz : z ∈ S) : 0 < sd (P x) (P y) (P z) := by
  have := N.pos h
  rw [N.vv hx, N.vv hy, N.vv hz, d3_lift] at this
  exact this

theorem NetOf.circ (N : NetOf P S a b c Tr) {x y z : Int} (h : Tr x y z) (hx : x ∈ S) (hy : y ∈ S) (hz : z ∈ S) {q : Int} (hq : q ∈ S) : cc (P x) (P y) (P z) (P q) ≤ 0 := by
  obtain ⟨vs, _, hm, net⟩ := N.net
  have := net.out h q ((hm q).2 (.inr hq))
  rw [N.vv hx, N.vv hy, N.vv hz, N.vv hq, kk_lift] at this
  exact this

theorem NetOf.ghost_mem (N : NetOf P S a b c Tr) {x y : Int} (h : Tr x y (-1)) : x ∈ S ∧ y ∈ S := by
  have h1 := N.ne12 (N.rot h)
  have h2 := N.ne12 (N.rot (N.rot h))
  have m1 := N.lab h
  have m2 := N.lab (N.rot h)
  refine ⟨?_, ?_⟩
  · rcases m1 with e | e
    · exact absurd e.symm h2
    · exact e
  · rcases m2 with e | e
    · exact absurd e h1
    · exact e

theorem NetOf.ghost (N : NetOf P S a b c Tr) {x y : Int} (h : Tr x y (-1)) {q : Int} (hq : q ∈ S) : sd (P x) (P y) (P q) ≤ 0 ∧ (sd (P x) (P y) (P q) = 0 → 0 ≤ dt (P x) (P y) (P q)) := by
  obtain ⟨hx, hy⟩ := N.ghost_mem h
  have hpos := N.pos h
  obtain ⟨vs, _, hm, net⟩ := N.net
  have := net.out h q ((hm q).2 (.inr hq))
  rw [N.vv hx, N.vv hy, VV_neg] at hpos
  rw [N.vv hx, N.vv hy, N.vv hq, VV_neg] at this
  have g := ghost_sign (N.near x hx) (N.near y hy) (N.near a N.ma) (N.near b N.mb) (N.near c N.mc) (N.near q hq)
  refine ⟨?_, fun e => ?_⟩
  · rcases Int.lt_or_le 0 (sd (P x) (P y) (P q)) with k | k
    · have := g.1 k; omega
    · exact k
  · have k := g.2.2 e
    rw [k] at this
    exact dnn hpos (by omega)

theorem NetOf.ghost_sum (N : NetOf P S a b c Tr) {x y : Int} (h : Tr x y (-1)) : sd (P x) (P y) (P a) + sd (P x) (P y) (P b) + sd (P x) (P y) (P c) < 0 := by
  obtain ⟨hx, hy⟩ := N.ghost_mem h
  have hpos := N.pos h
  rw [N.vv hx, N.vv hy, VV_neg, d3_apex] at hpos
  omega

/-- across a boundary's edge there is a triangle -/
theorem NetOf.ghost_pair (N : NetOf P S a b c Tr) {x y : Int} (h : Tr x y (-1)) : ∃ z ∈ S, Tr y x z := by
  obtain ⟨z, hz⟩ := N.pair h
  rcases N.lab (N.rot (N.rot hz)) with e | e
  · subst e
    have h1 := N.ghost_sum h
    have h2 := N.ghost_sum hz
    have s : ∀ q, sd (P y) (P x) q = - sd (P x) (P y) q := by intro q; unfold sd; grind
    rw [s, s, s] at h2
    omega
  · exact ⟨z, e, hz⟩

theorem NetOf.used (N : NetOf P S a b c Tr) {v : Int} (hv : v ∈ S) : ∃ y z, Tr v y z := by
  have N' := N
  obtain ⟨vs, _, hm, net⟩ := N.net
  obtain ⟨a0, b0, c0, h0⟩ := net.ne
  obtain ⟨x, y, z, h, h1, h2, h3⟩ := cover net.toShut h0 (VV P a b c v)
  have sep : Sep (VV P a b c) vs := by
    refine sep_VV (N.near _ N.ma) (N.near _ N.mb) (N.near _ N.mc) ?_ ?_
    · intro i hi
      rcases (hm i).1 hi with h | h
      · exact .inl h
      · exact .inr ⟨N.nn i h, N.near i h⟩
    · intro i hi j hj hi0 hj0 e
      have hi' : i ∈ S := by
        rcases (hm i).1 hi with h | h
        · omega
        · exact h
      have hj' : j ∈ S := by
        rcases (hm j).1 hj with h | h
        · omega
        · exact h
      exact N.inj i hi' j hj' e
  have mv : v ∈ vs := (hm v).2 (.inr hv)
  obtain ⟨hw, l, lz, l0, l1⟩ := sep v mv
  by_cases e1 : x = v
  · subst e1; exact ⟨y, z, h⟩
  · by_cases e2 : y = v
    · subst e2; exact ⟨z, x, N'.rot h⟩
    · by_cases e3 : z = v
      · subst e3; exact ⟨x, y, N'.rot (N'.rot h)⟩
      · have := in_below (net.pos h) h2 h3 h1 l0 (l1 x (net.mem h) e1) (l1 y (net.mem (net.rot h)) e2) (l1 z (net.mem (net.rot (net.rot h))) e3) lz hw
        have := net.out h v mv
        omega

def addV (u v w : Vec) : Vec := ⟨u.x + v.x + w.x, u.y + v.y + w.y, u.w + v.w + w.w, 0⟩
theorem d3_addV (p q u v w : Vec) : d3 p q (addV u v w) = d3 p q u + d3 p q v + d3 p q w := by unfold addV d3; grind

/-- of points on the line of x, y: neither pair between the other, and the middle of one within the other -/
theorem same_two {x y p q : Pt} {D α β : Int} (hD : 0 < D) (hα : 0 ≤ α) (hβ : 0 ≤ β) (hxy : x ≠ y) (hpq : p ≠ q) (hp : sd x y p = 0) (hq : sd x y q = 0)
    (h1 : 0 ≤ dt x y p) (h2 : 0 ≤ dt x y q) (h3 : 0 ≤ dt p q x) (h4 : 0 ≤ dt p q y)
    (ex : D * (p.1 + q.1) = α * x.1 + β * y.1) (ey : D * (p.2 + q.2) = α * x.2 + β * y.2) (ew : D * 2 = α + β) : (p = x ∧ q = y) ∨ (p = y ∧ q = x) := by
  -- along the line
  have hL : 0 < (y.1 - x.1) * (y.1 - x.1) + (y.2 - x.2) * (y.2 - x.2) := by
    have s1 := sq_nn (y.1 - x.1)
    have s2 := sq_nn (y.2 - x.2)
    by_cases e1 : y.1 = x.1
    · have e2 : y.2 ≠ x.2 := fun e2 => hxy (Prod.ext e1.symm e2.symm)
      have := sq_pos' (show y.2 - x.2 ≠ 0 by omega); omega
    · have := sq_pos' (show y.1 - x.1 ≠ 0 by omega); omega
  generalize hLe : (y.1 - x.1) * (y.1 - x.1) + (y.2 - x.2) * (y.2 - x.2) = L at hL
  generalize htp : (p.1 - x.1) * (y.1 - x.1) + (p.2 - x.2) * (y.2 - x.2) = tp
  generalize htq : (q.1 - x.1) * (y.1 - x.1) + (q.2 - x.2) * (y.2 - x.2) = tq
  have f1 : dt x y p * L = tp * (tp - L) := by
    have e : dt x y p * L - tp * (tp - L) = sd x y p * sd x y p := by rw [← hLe, ← htp]; unfold dt sd; grind
    rw [hp] at e; omega
  have f2 : dt x y q * L = tq * (tq - L) := by
    have e : dt x y q * L - tq * (tq - L) = sd x y q * sd x y q := by rw [← hLe, ← htq]; unfold dt sd; grind
    rw [hq] at e; omega
  have f3 : dt p q x * L = tp * tq := by
    have e : dt p q x * L - tp * tq = sd x y p * sd x y q := by rw [← hLe, ← htp, ← htq]; unfold dt sd; grind
    rw [hp] at e; omega
  have f4 : dt p q y * L = (L - tp) * (L - tq) := by
    have e : dt p q y * L - (L - tp) * (L - tq) = sd x y p * sd x y q := by rw [← hLe, ← htp, ← htq]; unfold dt sd; grind
    rw [hp] at e; omega
  have g1 : 0 ≤ tp * (tp - L) := by rw [← f1]; exact mnn h1 (Int.le_of_lt hL)
  have g2 : 0 ≤ tq * (tq - L) := by rw [← f2]; exact mnn h2 (Int.le_of_lt hL)
  have g3 : 0 ≤ tp * tq := by rw [← f3]; exact mnn h3 (Int.le_of_lt hL)
  have g4 : 0 ≤ (L - tp) * (L - tq) := by rw [← f4]; exact mnn h4 (Int.le_of_lt hL)
  have mid : D * (tp + tq) = β * L := by
    have e : D * (tp + tq) = (D * (p.1 + q.1) - D * 2 * x.1) * (y.1 - x.1) + (D * (p.2 + q.2) - D * 2 * x.2) * (y.2 - x.2) := by rw [← htp, ← htq]; grind
    rw [e, ex, ey, ew, ← hLe]; grind
  have m0 : 0 ≤ tp + tq := dnn hD (by rw [mid]; exact mnn hβ (Int.le_of_lt hL))
  have m1 : tp + tq ≤ 2 * L := by
    have : 0 ≤ D * (2 * L - (tp + tq)) := by
      have e : D * (2 * L - (tp + tq)) = α * L := by
        have : D * (2 * L - (tp + tq)) = D * 2 * L - D * (tp + tq) := by grind
        rw [this, mid, ew]; grind
      rw [e]; exact mnn hα (Int.le_of_lt hL)
    have := dnn hD this; omega
  -- a point by its place on the line
  have pt : ∀ (u : Pt) (t : Int), sd x y u = 0 → (u.1 - x.1) * (y.1 - x.1) + (u.2 - x.2) * (y.2 - x.2) = t → (t = 0 → u = x) ∧ (t = L → u = y) := by
    intro u t hu ht
    refine ⟨fun h0 => ?_, fun hl => ?_⟩
    · have e1 : L * (u.1 - x.1) = (y.1 - x.1) * t - (y.2 - x.2) * sd x y u := by rw [← hLe, ← ht]; unfold sd; grind
      have e2 : L * (u.2 - x.2) = (y.2 - x.2) * t + (y.1 - x.1) * sd x y u := by rw [← hLe, ← ht]; unfold sd; grind
      rw [h0, hu] at e1 e2
      have := dz hL (by omega : L * (u.1 - x.1) = 0)
      have := dz hL (by omega : L * (u.2 - x.2) = 0)
      exact Prod.ext (by omega) (by omega)
    · have e1 : L * (u.1 - y.1) = (y.1 - x.1) * (t - L) - (y.2 - x.2) * sd x y u := by rw [← hLe, ← ht]; unfold sd; grind
      have e2 : L * (u.2 - y.2) = (y.2 - x.2) * (t - L) + (y.1 - x.1) * sd x y u := by rw [← hLe, ← ht]; unfold sd; grind
      rw [hl, hu, Int.sub_self] at e1 e2
      have := dz hL (by omega : L * (u.1 - y.1) = 0)
      have := dz hL (by omega : L * (u.2 - y.2) = 0)
      exact Prod.ext (by omega) (by omega)
  have outp : tp ≤ 0 ∨ L ≤ tp := by
    rcases Int.lt_or_le 0 tp with k | k
    · have := dnn k g1; omega
    · omega
  have outq : tq ≤ 0 ∨ L ≤ tq := by
    rcases Int.lt_or_le 0 tq with k | k
    · have := dnn k g2; omega
    · omega
  rcases outp with k | k <;> rcases outq with k' | k'
  · exact absurd (((pt p tp hp htp).1 (by omega)).trans ((pt q tq hq htq).1 (by omega)).symm) hpq
  · left
    have e1 : tp = 0 := by
      rcases Int.lt_or_le tp 0 with r | r
      · have := mmp r (show 0 < tq by omega); omega
      · omega
    have e2 : tq = L := by
      rcases Int.lt_or_le L tq with r | r
      · have := mpm (show 0 < L - tp by omega) (show L - tq < 0 by omega); omega
      · omega
    exact ⟨(pt p tp hp htp).1 e1, (pt q tq hq htq).2 e2⟩
  · right
    have e1 : tq = 0 := by
      rcases Int.lt_or_le tq 0 with r | r
      · have := mpm (show 0 < tp by omega) r; omega
      · omega
    have e2 : tp = L := by
      rcases Int.lt_or_le L tp with r | r
      · have := mmp (show L - tp < 0 by omega) (show 0 < L - tq by omega); omega
      · omega
    exact ⟨(pt p tp hp htp).2 e2, (pt q tq hq htq).1 e1⟩
  · exact absurd (((pt p tp hp htp).2 (by omega)).trans ((pt q tq hq htq).2 (by omega)).symm) hpq

/-- points on both sides of a line, not all on it -/
theorem sum_pos {u v x y z : Pt} (huv : u ≠ v) (hb : 0 < sd x y z) (hx : 0 ≤ sd u v x) (hy : 0 ≤ sd u v y) (hz : 0 ≤ sd u v z) : 0 < sd u v x + sd u v y + sd u v z := by
  rcases Int.lt_or_le 0 (sd u v x + sd u v y + sd u v z) with k | k
  · exact k
  · have e1 : sd u v x = 0 := by omega
    have e2 : sd u v y = 0 := by omega
    have e3 : sd u v z = 0 := by omega
    have hL : 0 < (v.1 - u.1) * (v.1 - u.1) + (v.2 - u.2) * (v.2 - u.2) := by
      have s1 := sq_nn (v.1 - u.1)
      have s2 := sq_nn (v.2 - u.2)
      by_cases e1 : v.1 = u.1
      · have e2 : v.2 ≠ u.2 := fun e2 => huv (Prod.ext e1.symm e2.symm)
        have := sq_pos' (show v.2 - u.2 ≠ 0 by omega); omega
      · have := sq_pos' (show v.1 - u.1 ≠ 0 by omega); omega
    have : ((v.1 - u.1) * (v.1 - u.1) + (v.2 - u.2) * (v.2 - u.2)) * sd x y z =
        ((y.1 - x.1) * (v.1 - u.1) + (y.2 - x.2) * (v.2 - u.2)) * (sd u v z - sd u v x) - ((z.1 - x.1) * (v.1 - u.1) + (z.2 - x.2) * (v.2 - u.2)) * (sd u v y - sd u v x) := by
      unfold sd; grind
    rw [e1, e2, e3, Int.sub_self, Int.mul_zero, Int.mul_zero] at this
    have := mpp hL hb
    omega

/-- neighbours on the boundary -/
def Bnd (P : Int → Pt) (S : List Int) (x y : Int) : Prop := x ∈ S ∧ y ∈ S ∧ x ≠ y ∧ ∀ q ∈ S, 0 ≤ sd (P x) (P y) (P q) ∧ (sd (P x) (P y) (P q) = 0 → 0 ≤ dt (P x) (P y) (P q))

theorem NetOf.bnd_of (N : NetOf P S a b c Tr) {x y : Int} (h : Tr y x (-1)) : Bnd P S x y := by
  obtain ⟨hy, hx⟩ := N.ghost_mem h
  refine ⟨hx, hy, (N.ne12 h).symm, fun q hq => ?_⟩
  have := N.ghost h hq
  have s : sd (P x) (P y) (P q) = - sd (P y) (P x) (P q) := by unfold sd; grind
  have s2 : dt (P x) (P y) (P q) = dt (P y) (P x) (P q) := dt_comm _ _ _
  rw [s, s2]
  exact ⟨by omega, fun e => this.2 (by omega)⟩

theorem NetOf.of_bnd (N : NetOf P S a b c Tr) {u v : Int} (h : Bnd P S u v) : Tr v u (-1) := by
  obtain ⟨hu, hv, hne, hall⟩ := h
  have hPne : P u ≠ P v := fun e => hne (N.inj u hu v hv e)
  have hsum : 0 < sd (P u) (P v) (P a) + sd (P u) (P v) (P b) + sd (P u) (P v) (P c) := sum_pos hPne N.base (hall a N.ma).1 (hall b N.mb).1 (hall c N.mc).1
  have hψ : d3 (lift (P u)) (lift (P v)) (apex (P a) (P b) (P c)) < 0 := by rw [d3_apex]; omega
  have key : ∀ {x y : Int}, Tr x y (-1) → 0 ≤ d3 (VV P a b c x) (VV P a b c y) (addV (lift (P u)) (lift (P v)) (apex (P a) (P b) (P c))) → 0 ≤ d3 (VV P a b c y) (VV P a b c (-1)) (addV (lift (P u)) (lift (P v)) (apex (P a) (P b) (P c))) → 0 ≤ d3 (VV P a b c (-1)) (VV P a b c x) (addV (lift (P u)) (lift (P v)) (apex (P a) (P b) (P c))) → Tr v u (-1) := by
    intro x y h h1 h2 h3
    obtain ⟨hx, hy⟩ := N.ghost_mem h
    have hD := N.pos h
    rw [N.vv hx, N.vv hy, VV_neg] at hD
    rw [N.vv hx, N.vv hy] at h1
    rw [N.vv hy, VV_neg] at h2
    rw [N.vv hx, VV_neg] at h3
    generalize hq : addV (lift (P u)) (lift (P v)) (apex (P a) (P b) (P c)) = q at *
    generalize hO : apex (P a) (P b) (P c) = O at *
    have cr := d3_cr (lift (P x)) (lift (P y)) O q (lift (P u)) (lift (P v))
    have r1 : ∀ w, d3 w (lift (P u)) (lift (P v)) = d3 (lift (P u)) (lift (P v)) w := fun w => (d3_rot _ _ _).symm
    rw [r1, r1, r1, r1] at cr
    have qO : d3 (lift (P u)) (lift (P v)) q = d3 (lift (P u)) (lift (P v)) O := by rw [← hq, d3_addV, d3_aba, d3_abb]; omega
    have c3 : d3 (lift (P x)) (lift (P y)) q = sd (P x) (P y) (P u) + sd (P x) (P y) (P v) + d3 (lift (P x)) (lift (P y)) O := by rw [← hq, d3_addV, d3_lift, d3_lift]
    rw [qO, c3, d3_lift, d3_lift] at cr
    have gu := N.ghost h hu
    have gv := N.ghost h hv
    have ax := hall x hx
    have ay := hall y hy
    have t1 := mnn h2 ax.1
    have t2 := mnn h3 ay.1
    generalize hΔ : d3 (lift (P x)) (lift (P y)) O = D at *
    generalize hΨ : d3 (lift (P u)) (lift (P v)) O = ψ at *
    have e0 : (sd (P x) (P y) (P u) + sd (P x) (P y) (P v)) * ψ = - (d3 (lift (P y)) O q * sd (P u) (P v) (P x)) - d3 O (lift (P x)) q * sd (P u) (P v) (P y) := by grind
    have zu : sd (P x) (P y) (P u) = 0 ∧ sd (P x) (P y) (P v) = 0 := by
      rcases Int.lt_or_le (sd (P x) (P y) (P u) + sd (P x) (P y) (P v)) 0 with k | k
      · have := mmm k hψ; omega
      · omega
    have hPxy : P x ≠ P y := fun e => N.ne12 h (N.inj x hx y hy e)
    have ex := cr_x (lift (P x)) (lift (P y)) O q
    have ey := cr_y (lift (P x)) (lift (P y)) O q
    have ew := cr_w (lift (P x)) (lift (P y)) O q
    rw [c3, zu.1, zu.2, hΔ] at ex ey ew
    have := same_two hD h2 h3 hPxy hPne zu.1 zu.2 (gu.2 zu.1) (gv.2 zu.2) (by
        rcases Int.lt_or_le 0 (sd (P u) (P v) (P x)) with k | k
        · exfalso
          have : ((P v).1 - (P u).1) * 0 = 0 := by omega
          have e : ((P y).1 - (P x).1) * sd (P u) (P v) (P x) = ((P u).1 - (P x).1) * sd (P x) (P y) (P v) - ((P v).1 - (P x).1) * sd (P x) (P y) (P u) := by unfold sd; grind
          have e' : ((P y).2 - (P x).2) * sd (P u) (P v) (P x) = ((P u).2 - (P x).2) * sd (P x) (P y) (P v) - ((P v).2 - (P x).2) * sd (P x) (P y) (P u) := by unfold sd; grind
          rw [zu.1, zu.2, Int.mul_comm] at e e'
          have z1 := dz k (by omega : sd (P u) (P v) (P x) * ((P y).1 - (P x).1) = 0)
          have z2 := dz k (by omega : sd (P u) (P v) (P x) * ((P y).2 - (P x).2) = 0)
          exact hPxy (Prod.ext (by omega) (by omega))
        · exact ax.2 (by have := ax.1; omega)) (by
        rcases Int.lt_or_le 0 (sd (P u) (P v) (P y)) with k | k
        · exfalso
          have e : ((P y).1 - (P x).1) * sd (P u) (P v) (P y) = ((P u).1 - (P y).1) * sd (P x) (P y) (P v) - ((P v).1 - (P y).1) * sd (P x) (P y) (P u) := by unfold sd; grind
          have e' : ((P y).2 - (P x).2) * sd (P u) (P v) (P y) = ((P u).2 - (P y).2) * sd (P x) (P y) (P v) - ((P v).2 - (P y).2) * sd (P x) (P y) (P u) := by unfold sd; grind
          rw [zu.1, zu.2, Int.mul_comm] at e e'
          have z1 := dz k (by omega : sd (P u) (P v) (P y) * ((P y).1 - (P x).1) = 0)
          have z2 := dz k (by omega : sd (P u) (P v) (P y) * ((P y).2 - (P x).2) = 0)
          exact hPxy (Prod.ext (by omega) (by omega))
        · exact ay.2 (by have := ay.1; omega))
      (by have : q.x = (P u).1 + (P v).1 + O.x := by rw [← hq]; rfl
          rw [this] at ex
          have lx : (lift (P x)).x = (P x).1 := rfl
          have ly : (lift (P y)).x = (P y).1 := rfl
          rw [lx, ly] at ex
          grind)
      (by have : q.y = (P u).2 + (P v).2 + O.y := by rw [← hq]; rfl
          rw [this] at ey
          have lx : (lift (P x)).y = (P x).2 := rfl
          have ly : (lift (P y)).y = (P y).2 := rfl
          rw [lx, ly] at ey
          grind)
      (by have : q.w = 1 + 1 + O.w := by rw [← hq]; rfl
          rw [this] at ew
          have lx : (lift (P x)).w = 1 := rfl
          have ly : (lift (P y)).w = 1 := rfl
          rw [lx, ly] at ew
          grind)
    rcases this with ⟨e1, e2⟩ | ⟨e1, e2⟩
    · rw [e1, e2, hΔ] at hΨ
      omega
    · have i1 := N.inj u hu y hy e1
      have i2 := N.inj v hv x hx e2
      rw [i1, i2]; exact h
  obtain ⟨vs, _, hm, net⟩ := N.net
  obtain ⟨a0, b0, c0, h0⟩ := net.ne
  obtain ⟨x, y, z, h, h1, h2, h3⟩ := cover net.toShut h0 (addV (lift (P u)) (lift (P v)) (apex (P a) (P b) (P c)))
  by_cases ez : z = -1
  · subst ez; exact key h h1 h2 h3
  · by_cases ex : x = -1
    · subst ex; exact key (N.rot h) h2 h3 h1
    · by_cases ey : y = -1
      · subst ey; exact key (N.rot (N.rot h)) h3 h1 h2
      · exfalso
        have hx : x ∈ S := (N.lab h).resolve_left ex
        have hy : y ∈ S := (N.lab (N.rot h)).resolve_left ey
        have hz : z ∈ S := (N.lab (N.rot (N.rot h))).resolve_left ez
        have hD := N.pos h
        have cr := d3_cr (VV P a b c x) (VV P a b c y) (VV P a b c z) (addV (lift (P u)) (lift (P v)) (apex (P a) (P b) (P c))) (lift (P u)) (lift (P v))
        have r1 : ∀ w, d3 w (lift (P u)) (lift (P v)) = d3 (lift (P u)) (lift (P v)) w := fun w => (d3_rot _ _ _).symm
        rw [r1, r1, r1, r1, d3_addV, d3_aba, d3_abb] at cr
        rw [N.vv hx, N.vv hy, N.vv hz] at *
        rw [d3_lift (P u) (P v), d3_lift (P u) (P v), d3_lift (P u) (P v)] at cr
        have t1 := mnn h2 (hall x hx).1
        have t2 := mnn h3 (hall y hy).1
        have t3 := mnn h1 (hall z hz).1
        have t4 := mpm hD hψ
        simp only [Int.zero_add, Int.add_zero] at cr
        omega
end
end Go.Proofs.YtgpapegpdfonpaaGreatDoor

namespace Go.Proofs.YtgpapegpdfonpaaGreatDoor
set_option linter.unusedVariables false
set_option linter.unusedSimpArgs false

theorem len_bij {α β : Type} (f : α → β) {L : List α} {M : List β} (hL : L.Nodup) (hM : M.Nodup) (hi : ∀ x ∈ L, ∀ y ∈ L, f x = f y → x = y) (hm : ∀ x ∈ L, f x ∈ M) (hs : ∀ y ∈ M, ∃ x ∈ L, f x = y) : L.length = M.length := by
  have h1 := len_le (L.map f) M (nodup_map_on f L hL hi) (fun y hy => by obtain ⟨x, hx, rfl⟩ := List.mem_map.1 hy; exact hm x hx)
  have h2 := len_le M (L.map f) hM (fun y hy => by obtain ⟨x, hx, e⟩ := hs y hy; exact List.mem_map.2 ⟨x, hx, e⟩)
  simp at h1 h2
  omega

theorem big' {α : Type} (f : α → Int) : ∀ vs : List α, ∃ k : Int, 1 ≤ k ∧ ∀ b ∈ vs, f b < k
  | [] => ⟨1, by omega, by simp⟩
  | b :: vs => by
    obtain ⟨k, h1, h2⟩ := big' f vs
    refine ⟨k + (f b).natAbs + 1, by omega, fun c hc => ?_⟩
    rcases List.mem_cons.1 hc with rfl | hc
    · omega
    · have := h2 c hc; omega

def pairs (S : List Int) : List (Int × Int) := S.flatMap fun a => S.map fun b => (a, b)
theorem mem_pairs {S : List Int} {a b : Int} : (a, b) ∈ pairs S ↔ a ∈ S ∧ b ∈ S := by
  simp only [pairs, List.mem_flatMap, List.mem_map, Prod.mk.injEq]
  constructor
  · rintro ⟨a', ha, b', hb, rfl, rfl⟩
    exact ⟨ha, hb⟩
  · rintro ⟨ha, hb⟩
    exact ⟨a, ha, b, hb, rfl, rfl⟩
theorem nodup_pairs {S : List Int} (h : S.Nodup) : (pairs S).Nodup := by
  unfold pairs List.Nodup
  rw [List.pairwise_flatMap]
  refine ⟨fun a ha => nodup_map_on _ _ h (fun x _ y _ e => by simpa using e), ?_⟩
  refine h.imp (fun hne x hx y hy e => ?_)
  obtain ⟨b, _, rfl⟩ := List.mem_map.1 hx
  obtain ⟨b', _, rfl⟩ := List.mem_map.1 hy
  exact hne (Prod.mk.inj e).1
theorem nodup_triples {S : List Int} (h : S.Nodup) : (triples S).Nodup := by
  have h2 := nodup_pairs h
  unfold triples List.Nodup
  rw [List.pairwise_flatMap]
  refine ⟨fun a ha => ?_, ?_⟩
  · have e : (S.flatMap fun b => S.map fun c => (a, b, c)) = (pairs S).map (fun q => (a, q.1, q.2)) := by
      unfold pairs; rw [List.map_flatMap]; simp only [List.map_map]; rfl
    rw [e]
    exact nodup_map_on _ _ h2 (fun x _ y _ e => by
      have := (Prod.mk.inj (Prod.mk.inj e).2); exact Prod.ext this.1 this.2)
  · refine h.imp (fun hne x hx y hy e => ?_)
    simp only [List.mem_flatMap, List.mem_map] at hx hy
    obtain ⟨b, _, c, _, rfl⟩ := hx
    obtain ⟨b', _, c', _, rfl⟩ := hy
    exact hne (Prod.mk.inj e).1

theorem filter_split {α : Type} (p : α → Bool) : ∀ L : List α, L.length = (L.filter p).length + (L.filter (fun x => ! p x)).length
  | [] => rfl
  | a :: L => by
    have := filter_split p L
    by_cases h : p a
    · simp [h]; omega
    · simp [h]; omega

theorem filter_three {α : Type} (p q r : α → Bool) : ∀ L : List α, (∀ x ∈ L, (p x = true ∧ q x = false ∧ r x = false) ∨ (p x = false ∧ q x = true ∧ r x = false) ∨ (p x = false ∧ q x = false ∧ r x = true)) →
    L.length = (L.filter p).length + (L.filter q).length + (L.filter r).length
  | [], _ => rfl
  | a :: L, h => by
    have ih := filter_three p q r L (fun x hx => h x (by simp [hx]))
    rcases h a (by simp) with ⟨h1, h2, h3⟩ | ⟨h1, h2, h3⟩ | ⟨h1, h2, h3⟩ <;> simp [h1, h2, h3] <;> omega

section
variable {P : Int → Pt} {S : List Int} {a b c : Int} {Tr : Int → Int → Int → Prop}

/-- each direction from a point lies in one of its triangles -/
theorem NetOf.sector (N : NetOf P S a b c Tr) {v : Int} (hv : v ∈ S) (m : Vec) : ∃ y z, Tr v y z ∧ 0 ≤ d3 (VV P a b c v) (VV P a b c y) m ∧ 0 ≤ d3 (VV P a b c z) (VV P a b c v) m := by
  have N' := N
  obtain ⟨vs, _, hm, net⟩ := N.net
  obtain ⟨a0, b0, c0, h0⟩ := net.ne
  obtain ⟨K, hK1, hK⟩ := big' (fun q : Int × Int => ((d3 (VV P a b c q.1) (VV P a b c q.2) m).natAbs : Int)) (pairs vs)
  obtain ⟨x, y, z, h, h1, h2, h3⟩ := cover net.toShut h0 (lin 1 K (VV P a b c v) m)
  rw [d3_lin] at h1 h2 h3
  have mx := net.mem h
  have my := net.mem (net.rot h)
  have mz := net.mem (net.rot (net.rot h))
  have small : ∀ {s t : Int}, s ∈ vs → t ∈ vs → 0 ≤ K * d3 (VV P a b c s) (VV P a b c t) (VV P a b c v) + 1 * d3 (VV P a b c s) (VV P a b c t) m → 0 ≤ d3 (VV P a b c s) (VV P a b c t) (VV P a b c v) := by
    intro s t hs ht h
    have := hK (s, t) (mem_pairs.2 ⟨hs, ht⟩)
    dsimp only at this
    rcases Int.lt_or_le (d3 (VV P a b c s) (VV P a b c t) (VV P a b c v)) 0 with k | k
    · have := Int.mul_le_mul_of_nonneg_left (show d3 (VV P a b c s) (VV P a b c t) (VV P a b c v) ≤ -1 by omega) (show 0 ≤ K by omega)
      omega
    · exact k
  have g1 := small mx my h1
  have g2 := small my mz h2
  have g3 := small mz mx h3
  have sep : Sep (VV P a b c) vs := by
    refine sep_VV (N.near _ N.ma) (N.near _ N.mb) (N.near _ N.mc) ?_ ?_
    · intro i hi
      rcases (hm i).1 hi with h | h
      · exact .inl h
      · exact .inr ⟨N.nn i h, N.near i h⟩
    · intro i hi j hj hi0 hj0 e
      have hi' : i ∈ S := by
        rcases (hm i).1 hi with h | h
        · omega
        · exact h
      have hj' : j ∈ S := by
        rcases (hm j).1 hj with h | h
        · omega
        · exact h
      exact N.inj i hi' j hj' e
  have mv : v ∈ vs := (hm v).2 (.inr hv)
  obtain ⟨hw, l, lz, l0, l1⟩ := sep v mv
  by_cases e1 : x = v
  · subst e1
    rw [d3_aba] at h1
    rw [d3_abb] at h3
    exact ⟨y, z, h, by omega, by omega⟩
  · by_cases e2 : y = v
    · subst e2
      rw [d3_aba] at h2
      rw [d3_abb] at h1
      exact ⟨z, x, N'.rot h, by omega, by omega⟩
    · by_cases e3 : z = v
      · subst e3
        rw [d3_aba] at h3
        rw [d3_abb] at h2
        exact ⟨x, y, N'.rot (N'.rot h), by omega, by omega⟩
      · have := in_below (net.pos h) g2 g3 g1 l0 (l1 x mx e1) (l1 y my e2) (l1 z mz e3) lz hw
        have := net.out h v mv
        omega

theorem back_sum {mx my yx yy zx zy D β γ : Int} (hm : fw mx my) (hD : 0 < D) (hβ : 0 ≤ β) (hγ : 0 ≤ γ) (ex : D * mx = β * yx + γ * zx) (ey : D * my = β * yy + γ * zy)
    (hy : β = 0 ∨ fw (-yx) (-yy)) (hz : γ = 0 ∨ fw (-zx) (-zy)) : False := by
  have key : ∀ {β x y : Int}, 0 ≤ β → (β = 0 ∨ fw (-x) (-y)) → β * x ≤ 0 ∧ (β * x = 0 → β * y ≤ 0) := by
    intro β x y hβ h
    rcases h with rfl | h
    · simp
    · unfold fw at h
      refine ⟨mnq hβ (by omega), fun e => ?_⟩
      rcases Int.lt_or_le 0 β with k | k
      · have := dz k e
        exact mnq hβ (by omega)
      · have : β = 0 := by omega
        subst this; simp
  have ky := key hβ hy
  have kz := key hγ hz
  unfold fw at hm
  rcases hm with hm | ⟨h0, hm⟩
  · have := mpp hD hm; omega
  · subst h0
    rw [Int.mul_zero] at ex
    have := mpp hD hm
    have := ky.2 (by omega)
    have := kz.2 (by omega)
    omega

/-- to the right of v, by X and then Y -/
def RN (P : Int → Pt) (S : List Int) (Tr : Int → Int → Int → Prop) (v w : Int) : Prop := w ∈ S ∧ plt (P v) (P w) ∧ ∃ x, Tr v w x

theorem NetOf.right_ex (N : NetOf P S a b c Tr) {v m : Int} (hv : v ∈ S) (hm : m ∈ S) (hlt : plt (P v) (P m)) : ∃ w, RN P S Tr v w := by
  obtain ⟨y, z, h, h1, h2⟩ := N.sector hv (lift (P m))
  refine Classical.byContradiction fun hno => ?_
  have hD := N.pos h
  have hz' : ∃ x, Tr v z x := N.pair (N.rot (N.rot h))
  have key : ∀ w, (∃ x, Tr v w x) → w ∈ S → fw (-((P w).1 - (P v).1)) (-((P w).2 - (P v).2)) := by
    intro w hw hwS
    have hne : v ≠ w := by obtain ⟨x, hx⟩ := hw; exact N.ne12 hx
    rcases plt_tri (P v) (P w) with k | k | k
    · exact absurd ⟨w, hwS, k, hw⟩ hno
    · exact absurd (N.inj v hv w hwS k) hne
    · have := plt_fw k; unfold fw at *; omega
  have cx := cr_x (VV P a b c v) (VV P a b c y) (VV P a b c z) (lift (P m))
  have cy := cr_y (VV P a b c v) (VV P a b c y) (VV P a b c z) (lift (P m))
  have cw := cr_w (VV P a b c v) (VV P a b c y) (VV P a b c z) (lift (P m))
  generalize hA : d3 (VV P a b c y) (VV P a b c z) (lift (P m)) = A at *
  generalize hB : d3 (VV P a b c z) (VV P a b c v) (lift (P m)) = B at *
  generalize hC : d3 (VV P a b c v) (VV P a b c y) (lift (P m)) = C at *
  generalize hDD : d3 (VV P a b c v) (VV P a b c y) (VV P a b c z) = D at *
  generalize hY : VV P a b c y = Y at *
  generalize hZ : VV P a b c z = Z at *
  rw [N.vv hv] at cx cy cw
  have lx : (lift (P v)).x = (P v).1 := rfl
  have ly : (lift (P v)).y = (P v).2 := rfl
  have lw : (lift (P v)).w = 1 := rfl
  have mx : (lift (P m)).x = (P m).1 := rfl
  have my : (lift (P m)).y = (P m).2 := rfl
  have mw : (lift (P m)).w = 1 := rfl
  rw [lx, mx] at cx
  rw [ly, my] at cy
  rw [lw, mw] at cw
  have ex : D * ((P m).1 - (P v).1) = B * (Y.x - (P v).1 * Y.w) + C * (Z.x - (P v).1 * Z.w) := by grind
  have ey : D * ((P m).2 - (P v).2) = B * (Y.y - (P v).2 * Y.w) + C * (Z.y - (P v).2 * Z.w) := by grind
  have hYc : B = 0 ∨ fw (-(Y.x - (P v).1 * Y.w)) (-(Y.y - (P v).2 * Y.w)) := by
    rcases N.lab (N.rot h) with e | hy
    · left
      subst e
      have t : Tr z v (-1) := N.rot (N.rot h)
      have hz := (N.ghost_mem t).1
      have := (N.ghost t hm).1
      rw [← hZ, N.vv hz, N.vv hv, d3_lift] at hB
      omega
    · right
      have := key y ⟨z, h⟩ hy
      rw [← hY, N.vv hy]
      have e1 : (lift (P y)).x = (P y).1 := rfl
      have e2 : (lift (P y)).y = (P y).2 := rfl
      have e3 : (lift (P y)).w = 1 := rfl
      rw [e1, e2, e3, Int.mul_one, Int.mul_one]
      exact this
  have hZc : C = 0 ∨ fw (-(Z.x - (P v).1 * Z.w)) (-(Z.y - (P v).2 * Z.w)) := by
    rcases N.lab (N.rot (N.rot h)) with e | hz
    · left
      subst e
      have hy := (N.ghost_mem h).2
      have := (N.ghost h hm).1
      rw [← hY, N.vv hy, N.vv hv, d3_lift] at hC
      omega
    · right
      have := key z hz' hz
      rw [← hZ, N.vv hz]
      have e1 : (lift (P z)).x = (P z).1 := rfl
      have e2 : (lift (P z)).y = (P z).2 := rfl
      have e3 : (lift (P z)).w = 1 := rfl
      rw [e1, e2, e3, Int.mul_one, Int.mul_one]
      exact this
  exact back_sum (plt_fw hlt) hD h2 h1 ex ey hYc hZc

/-- the topmost right neighbour: behind it no triangle goes on to the right -/
def Top (P : Int → Pt) (S : List Int) (Tr : Int → Int → Int → Prop) (v w : Int) : Prop := RN P S Tr v w ∧ ∀ x, Tr v w x → ¬ (x ∈ S ∧ plt (P v) (P x))

theorem sd_as (v x y : Pt) : sd v x y = (x.1 - v.1) * (y.2 - v.2) - (x.2 - v.2) * (y.1 - v.1) := rfl

theorem NetOf.top_ex (N : NetOf P S a b c Tr) {v m : Int} (hv : v ∈ S) (hm : m ∈ S) (hlt : plt (P v) (P m)) : ∃ w, Top P S Tr v w := by
  obtain ⟨w0, hw0⟩ := N.right_ex hv hm hlt
  obtain ⟨w, hw, hR, hmax⟩ := list_max (fun w => RN P S Tr v w) (fun x y => 0 ≤ sd (P v) (P x) (P y)) (fun x y _ _ => by
      have : sd (P v) (P y) (P x) = - sd (P v) (P x) (P y) := by unfold sd; grind
      omega) (fun x y z hx hy hz h1 h2 => by
      exact tr_ge (plt_fw hx.2.1) (plt_fw hy.2.1) (plt_fw hz.2.1) h1 h2) S ⟨w0, hw0.1, hw0⟩
  refine ⟨w, hR, fun x hx hxr => ?_⟩
  have hxe : ∃ y, Tr v x y := N.pair (N.rot (N.rot hx))
  have := hmax x hxr.1 ⟨hxr.1, hxr.2, hxe⟩
  have h2 := N.side hx hv hw hxr.1
  have : sd (P v) (P x) (P w) = - sd (P v) (P w) (P x) := by unfold sd; grind
  omega

theorem line_same {v w u : Pt} (hw : plt v w) (hu : plt v u) (h0 : sd v w u = 0) (h1 : 0 ≤ dt v w u) (h2 : 0 ≤ dt v u w) : w = u := by
  have f1 := plt_fw hw
  have f2 := plt_fw hu
  unfold sd at h0
  unfold dt at h1 h2
  have e1 : u.1 - w.1 = (u.1 - v.1) - (w.1 - v.1) := by omega
  have e2 : u.2 - w.2 = (u.2 - v.2) - (w.2 - v.2) := by omega
  have e3 : w.1 - u.1 = (w.1 - v.1) - (u.1 - v.1) := by omega
  have e4 : w.2 - u.2 = (w.2 - v.2) - (u.2 - v.2) := by omega
  rw [e1, e2] at h1
  rw [e3, e4] at h2
  suffices h : w.1 - v.1 = u.1 - v.1 ∧ w.2 - v.2 = u.2 - v.2 by exact Prod.ext (by omega) (by omega)
  generalize w.1 - v.1 = wx at *
  generalize w.2 - v.2 = wy at *
  generalize u.1 - v.1 = ux at *
  generalize u.2 - v.2 = uy at *
  have hc : 0 < wx * ux + wy * uy := by
    unfold fw at f1 f2
    rcases f1 with k | ⟨k0, k⟩
    · have hux : 0 < ux := by
        rcases f2 with r | ⟨r0, r⟩
        · exact r
        · subst r0
          have := mpp k r
          rw [Int.mul_zero] at h0
          omega
      refine dpos k ?_
      have e : wx * (wx * ux + wy * uy) = ux * (wx * wx + wy * wy) := by grind
      rw [e]
      have := mpp k k
      have := sq_nn wy
      exact mpp hux (by omega)
    · subst k0
      have hux : ux = 0 := dz k (by omega)
      subst hux
      have : 0 < uy := by omega
      have := mpp k this
      omega
  have sq : (wx * wx + wy * wy) * (ux * ux + uy * uy) = (wx * ux + wy * uy) * (wx * ux + wy * uy) := by
    have : (wx * wx + wy * wy) * (ux * ux + uy * uy) - (wx * ux + wy * uy) * (wx * ux + wy * uy) = (wx * uy - wy * ux) * (wx * uy - wy * ux) := by grind
    rw [h0] at this; omega
  have ha : wx * ux + wy * uy ≤ ux * ux + uy * uy := by grind
  have hb : wx * ux + wy * uy ≤ wx * wx + wy * wy := by grind
  generalize hA : wx * wx + wy * wy = A at *
  generalize hB : ux * ux + uy * uy = B at *
  generalize hC : wx * ux + wy * uy = C at *
  have k1 : A = C := by
    rcases Int.lt_or_le C A with r | r
    · have := mpp (show 0 < A - C by omega) (show 0 < B by omega)
      have := mnn (show 0 ≤ C by omega) (show 0 ≤ B - C by omega)
      grind
    · omega
  have k2 : B = C := by
    rw [k1] at sq
    have : C * (B - C) = 0 := by grind
    have := dz hc this
    omega
  have z : (wx - ux) * (wx - ux) + (wy - uy) * (wy - uy) = 0 := by
    have : (wx - ux) * (wx - ux) + (wy - uy) * (wy - uy) = A + B - 2 * C := by rw [← hA, ← hB, ← hC]; grind
    omega
  have s1 := sq_nn (wx - ux)
  have s2 := sq_nn (wy - uy)
  constructor
  · refine Classical.byContradiction fun hne => ?_
    have := sq_pos' (show wx - ux ≠ 0 by omega); omega
  · refine Classical.byContradiction fun hne => ?_
    have := sq_pos' (show wy - uy ≠ 0 by omega); omega

theorem NetOf.edge_dt (N : NetOf P S a b c Tr) {v w u x : Int} (hv : v ∈ S) (hw : w ∈ S) (hu : u ∈ S) (h : Tr v w x) (h0 : sd (P v) (P w) (P u) = 0) : 0 ≤ dt (P v) (P w) (P u) := by
  rcases N.lab (N.rot (N.rot h)) with e | hx
  · subst e; exact (N.ghost h hu).2 h0
  · have h1 := N.circ h hv hw hx hu
    have h2 := N.side h hv hw hx
    rw [cc_line, h0] at h1
    refine dnn h2 ?_
    have : -sd (P v) (P w) (P x) * dt (P v) (P w) (P u) = -(sd (P v) (P w) (P x) * dt (P v) (P w) (P u)) := Int.neg_mul _ _
    omega

theorem NetOf.top_aux (N : NetOf P S a b c Tr) {v w u : Int} (hv : v ∈ S) (hw : Top P S Tr v w) (hu : RN P S Tr v u) (hs : 0 ≤ sd (P v) (P w) (P u)) : w = u := by
  obtain ⟨⟨hwS, hwl, x, hx⟩, hno⟩ := hw
  obtain ⟨huS, hul, y, hy⟩ := hu
  have hno := hno x hx
  rcases Int.lt_or_le 0 (sd (P v) (P w) (P u)) with k | k
  · exfalso
    rcases N.lab (N.rot (N.rot hx)) with e | hxS
    · subst e; have := (N.ghost hx huS).1; omega
    · have hvx : v ≠ x := (N.ne12 (N.rot (N.rot hx))).symm
      have hxl : plt (P x) (P v) := by
        rcases plt_tri (P v) (P x) with r | r | r
        · exact absurd ⟨hxS, r⟩ hno
        · exact absurd (N.inj v hv x hxS r) hvx
        · exact r
      have hD := N.side hx hv hwS hxS
      have hux : 0 < sd (P v) (P u) (P x) := by
        have z := plt_fw hxl
        have := tr_gt2 z (plt_fw hwl) (plt_fw hul) (by have e : ((P v).1 - (P x).1) * ((P w).2 - (P v).2) - ((P v).2 - (P x).2) * ((P w).1 - (P v).1) = sd (P v) (P w) (P x) := by unfold sd; grind
                                                       rw [e]; exact hD) (Int.le_of_lt k)
        have e : ((P v).1 - (P x).1) * ((P u).2 - (P v).2) - ((P v).2 - (P x).2) * ((P u).1 - (P v).1) = sd (P v) (P u) (P x) := by unfold sd; grind
        rw [e] at this; exact this
      have N' := N
      obtain ⟨vs, hnd, hm, net⟩ := N.net
      rcases Int.lt_or_le (sd (P w) (P x) (P u)) 0 with r | r
      · obtain ⟨d, hd⟩ := N.pair (N.rot hx)
        refine net.ncr hy hd ⟨?_, ?_, ?_, ?_⟩
        · rw [N.vv huS, N.vv hxS, N.vv hwS, d3_lift]
          have : sd (P u) (P x) (P w) = - sd (P w) (P x) (P u) := by unfold sd; grind
          omega
        · rw [N.vv hv, N.vv hxS, N.vv hwS, d3_lift]
          have : sd (P v) (P x) (P w) = - sd (P v) (P w) (P x) := by unfold sd; grind
          omega
        · rw [N.vv hv, N.vv huS, N.vv hwS, d3_lift]
          have : sd (P v) (P u) (P w) = - sd (P v) (P w) (P u) := by unfold sd; grind
          omega
        · rw [N.vv hv, N.vv huS, N.vv hxS, d3_lift]; exact hux
      · have sep : Sep (VV P a b c) vs := by
          refine sep_VV (N.near _ N.ma) (N.near _ N.mb) (N.near _ N.mc) ?_ ?_
          · intro i hi
            rcases (hm i).1 hi with h | h
            · exact .inl h
            · exact .inr ⟨N.nn i h, N.near i h⟩
          · intro i hi j hj hi0 hj0 e
            have hi' : i ∈ S := by
              rcases (hm i).1 hi with h | h
              · omega
              · exact h
            have hj' : j ∈ S := by
              rcases (hm j).1 hj with h | h
              · omega
              · exact h
            exact N.inj i hi' j hj' e
        have mu : u ∈ vs := (hm u).2 (.inr huS)
        obtain ⟨hwt, l, lz, l0, l1⟩ := sep u mu
        have nvu : v ≠ u := N'.ne12 hy
        have nwu : w ≠ u := by intro e; subst e; have : sd (P v) (P w) (P w) = 0 := by { unfold sd; grind }; omega
        have nxu : x ≠ u := by intro e; subst e; have : sd (P v) (P x) (P x) = 0 := by { unfold sd; grind }; omega
        have := in_below (net.pos hx) (p := VV P a b c u) (by rw [N.vv hwS, N.vv hxS, N.vv huS, d3_lift]; exact r)
          (by rw [N.vv hv, N.vv hxS, N.vv huS, d3_lift]; have : sd (P x) (P v) (P u) = sd (P v) (P u) (P x) := by { unfold sd; grind }; omega)
          (by rw [N.vv hv, N.vv hwS, N.vv huS, d3_lift]; omega) l0 (l1 v ((hm v).2 (.inr hv)) nvu) (l1 w ((hm w).2 (.inr hwS)) nwu) (l1 x ((hm x).2 (.inr hxS)) nxu) lz hwt
        have := net.out hx u mu
        omega
  · have e0 : sd (P v) (P w) (P u) = 0 := by omega
    have e0' : sd (P v) (P u) (P w) = 0 := by have : sd (P v) (P u) (P w) = - sd (P v) (P w) (P u) := by { unfold sd; grind }; omega
    exact N.inj w hwS u huS (line_same hwl hul e0 (N.edge_dt hv hwS huS hx e0) (N.edge_dt hv huS hwS hy e0'))

theorem NetOf.top_uniq (N : NetOf P S a b c Tr) {v w u : Int} (hv : v ∈ S) (hw : Top P S Tr v w) (hu : Top P S Tr v u) : w = u := by
  rcases Int.le_total 0 (sd (P v) (P w) (P u)) with k | k
  · exact N.top_aux hv hw hu.1 k
  · exact (N.top_aux hv hu hw.1 (by have : sd (P v) (P u) (P w) = - sd (P v) (P w) (P u) := by { unfold sd; grind }; omega)).symm
end
end Go.Proofs.YtgpapegpdfonpaaGreatDoor

namespace Go.Proofs.YtgpapegpdfonpaaGreatDoor
set_option linter.unusedVariables false
set_option linter.unusedSimpArgs false

section
variable {P : Int → Pt} {S : List Int} {a b c : Int} {Tr : Int → Int → Int → Prop}
open Classical

noncomputable def allTr (S : List Int) (Tr : Int → Int → Int → Prop) : List (Int × Int × Int) := (triples S).filter (fun t => decide (Tr t.1 t.2.1 t.2.2))
theorem mem_allTr {x y z : Int} : (x, y, z) ∈ allTr S Tr ↔ Tr x y z ∧ x ∈ S ∧ y ∈ S ∧ z ∈ S := by
  unfold allTr
  rw [List.mem_filter, mem_triples, decide_eq_true_eq]
  constructor
  · rintro ⟨⟨h1, h2, h3⟩, h⟩; exact ⟨h, h1, h2, h3⟩
  · rintro ⟨h, h1, h2, h3⟩; exact ⟨⟨h1, h2, h3⟩, h⟩
theorem nodup_allTr (hS : S.Nodup) : (allTr S Tr).Nodup := (nodup_triples hS).filter _

/-- of the three turns of each triangle one is told -/
theorem NetOf.third (N : NetOf P S a b c Tr) (hS : S.Nodup) (Q : Int × Int × Int → Prop)
    (hQ : ∀ x y z, Tr x y z → x ∈ S → y ∈ S → z ∈ S → (Q (x, y, z) ∧ ¬ Q (y, z, x) ∧ ¬ Q (z, x, y)) ∨ (¬ Q (x, y, z) ∧ Q (y, z, x) ∧ ¬ Q (z, x, y)) ∨ (¬ Q (x, y, z) ∧ ¬ Q (y, z, x) ∧ Q (z, x, y))) :
    ∀ M : List (Int × Int × Int), M.Nodup → (∀ t, t ∈ M ↔ t ∈ allTr S Tr ∧ Q t) → (allTr S Tr).length = 3 * M.length := by
  intro M hMn hM
  have h3 := filter_three (fun t : Int × Int × Int => decide (Q t)) (fun t => decide (Q (t.2.1, t.2.2, t.1))) (fun t => decide (Q (t.2.2, t.1, t.2.1))) (allTr S Tr) (by
    rintro ⟨x, y, z⟩ h
    obtain ⟨h, hx, hy, hz⟩ := mem_allTr.1 h
    rcases hQ x y z h hx hy hz with ⟨k1, k2, k3⟩ | ⟨k1, k2, k3⟩ | ⟨k1, k2, k3⟩ <;> simp [k1, k2, k3])
  have hnd := nodup_allTr (Tr := Tr) hS
  have e1 : ((allTr S Tr).filter (fun t => decide (Q (t.2.1, t.2.2, t.1)))).length = ((allTr S Tr).filter (fun t => decide (Q t))).length := by
    refine len_bij (fun t => (t.2.1, t.2.2, t.1)) (hnd.filter _) (hnd.filter _) ?_ ?_ ?_
    · rintro ⟨x, y, z⟩ _ ⟨x', y', z'⟩ _ e
      simp at e ⊢; omega
    · rintro ⟨x, y, z⟩ h
      rw [List.mem_filter, decide_eq_true_eq] at h ⊢
      obtain ⟨t, hx, hy, hz⟩ := mem_allTr.1 h.1
      exact ⟨mem_allTr.2 ⟨N.rot t, hy, hz, hx⟩, h.2⟩
    · rintro ⟨x, y, z⟩ h
      rw [List.mem_filter, decide_eq_true_eq] at h
      obtain ⟨t, hx, hy, hz⟩ := mem_allTr.1 h.1
      refine ⟨(z, x, y), ?_, rfl⟩
      rw [List.mem_filter, decide_eq_true_eq]
      exact ⟨mem_allTr.2 ⟨N.rot (N.rot t), hz, hx, hy⟩, h.2⟩
  have e2 : ((allTr S Tr).filter (fun t => decide (Q (t.2.2, t.1, t.2.1)))).length = ((allTr S Tr).filter (fun t => decide (Q t))).length := by
    refine len_bij (fun t => (t.2.2, t.1, t.2.1)) (hnd.filter _) (hnd.filter _) ?_ ?_ ?_
    · rintro ⟨x, y, z⟩ _ ⟨x', y', z'⟩ _ e
      simp at e ⊢; omega
    · rintro ⟨x, y, z⟩ h
      rw [List.mem_filter, decide_eq_true_eq] at h ⊢
      obtain ⟨t, hx, hy, hz⟩ := mem_allTr.1 h.1
      exact ⟨mem_allTr.2 ⟨N.rot (N.rot t), hz, hx, hy⟩, h.2⟩
    · rintro ⟨x, y, z⟩ h
      rw [List.mem_filter, decide_eq_true_eq] at h
      obtain ⟨t, hx, hy, hz⟩ := mem_allTr.1 h.1
      refine ⟨(y, z, x), ?_, rfl⟩
      rw [List.mem_filter, decide_eq_true_eq]
      exact ⟨mem_allTr.2 ⟨N.rot t, hy, hz, hx⟩, h.2⟩
  have e3 : ((allTr S Tr).filter (fun t => decide (Q t))).length = M.length := by
    refine len_bij id (hnd.filter _) hMn (fun _ _ _ _ e => e) ?_ ?_
    · intro t h
      rw [List.mem_filter, decide_eq_true_eq] at h
      exact (hM t).2 h
    · intro t h
      refine ⟨t, ?_, rfl⟩
      rw [List.mem_filter, decide_eq_true_eq]
      exact (hM t).1 h
  omega

theorem NetOf.third_real (N : NetOf P S a b c Tr) {x y z : Int} (h : Tr x y z) (hz : z ≠ -1) : z ∈ S := (N.lab (N.rot (N.rot h))).resolve_left hz

theorem NetOf.ne3 (N : NetOf P S a b c Tr) {x y z : Int} (h : Tr x y z) : x ≠ y ∧ y ≠ z ∧ z ≠ x := ⟨N.ne12 h, N.ne12 (N.rot h), N.ne12 (N.rot (N.rot h))⟩

theorem NetOf.count (N : NetOf P S a b c Tr) (hS : S.Nodup) (ts : List (Int × Int × Int)) (hts : ts.Nodup) (hmem : ∀ x y z, (x, y, z) ∈ ts ↔ Tr x y z ∧ 0 ≤ x ∧ x < y ∧ x < z)
    (G : List (Int × Int)) (hG : G.Nodup) (hGm : ∀ x y, (x, y) ∈ G ↔ Tr x y (-1)) : ts.length + 2 + G.length = 2 * S.length := by
  have hA := nodup_allTr (Tr := Tr) hS
  have hP := nodup_pairs hS
  -- by the least number
  have c1 : (allTr S Tr).length = 3 * ts.length := by
    refine N.third hS (fun t => t.1 < t.2.1 ∧ t.1 < t.2.2) ?_ ts hts ?_
    · intro x y z h _ _ _
      obtain ⟨h1, h2, h3⟩ := N.ne3 h
      dsimp only
      omega
    · rintro ⟨x, y, z⟩
      rw [hmem, mem_allTr]
      constructor
      · rintro ⟨t, h0, h1, h2⟩
        exact ⟨⟨t, N.mem t h0, N.mem (N.rot t) (by omega), N.mem (N.rot (N.rot t)) (by omega)⟩, h1, h2⟩
      · rintro ⟨⟨t, hx, hy, hz⟩, h1, h2⟩
        exact ⟨t, N.nn x hx, h1, h2⟩
  -- by the leftmost point
  have tri3 : ∀ x y z, Tr x y z → x ∈ S → y ∈ S → z ∈ S → ((plt (P x) (P y) ∧ plt (P x) (P z)) ∧ ¬ (plt (P y) (P z) ∧ plt (P y) (P x)) ∧ ¬ (plt (P z) (P x) ∧ plt (P z) (P y))) ∨ (¬ (plt (P x) (P y) ∧ plt (P x) (P z)) ∧ (plt (P y) (P z) ∧ plt (P y) (P x)) ∧ ¬ (plt (P z) (P x) ∧ plt (P z) (P y))) ∨ (¬ (plt (P x) (P y) ∧ plt (P x) (P z)) ∧ ¬ (plt (P y) (P z) ∧ plt (P y) (P x)) ∧ (plt (P z) (P x) ∧ plt (P z) (P y))) := by
    intro x y z h hx hy hz
    obtain ⟨h1, h2, h3⟩ := N.ne3 h
    have n1 : ¬ ((P x).1 = (P y).1 ∧ (P x).2 = (P y).2) := fun e => h1 (N.inj x hx y hy (Prod.ext e.1 e.2))
    have n2 : ¬ ((P y).1 = (P z).1 ∧ (P y).2 = (P z).2) := fun e => h2 (N.inj y hy z hz (Prod.ext e.1 e.2))
    have n3 : ¬ ((P z).1 = (P x).1 ∧ (P z).2 = (P x).2) := fun e => h3 (N.inj z hz x hx (Prod.ext e.1 e.2))
    unfold plt
    omega
  generalize hGMe : (allTr S Tr).filter (fun t => decide (plt (P t.1) (P t.2.1) ∧ plt (P t.1) (P t.2.2))) = GM
  have hGM : ∀ x y z, (x, y, z) ∈ GM ↔ (Tr x y z ∧ x ∈ S ∧ y ∈ S ∧ z ∈ S) ∧ plt (P x) (P y) ∧ plt (P x) (P z) := by
    intro x y z
    rw [← hGMe, List.mem_filter, decide_eq_true_eq, mem_allTr]
  have hGMn : GM.Nodup := by rw [← hGMe]; exact hA.filter _
  have c2 : (allTr S Tr).length = 3 * GM.length := by
    refine N.third hS (fun t => plt (P t.1) (P t.2.1) ∧ plt (P t.1) (P t.2.2)) tri3 GM hGMn ?_
    rintro ⟨x, y, z⟩
    rw [hGM, mem_allTr]
  -- edges to the right
  generalize hELe : (pairs S).filter (fun q => decide (plt (P q.1) (P q.2) ∧ ∃ x, Tr q.1 q.2 x)) = EL
  have hELn : EL.Nodup := by rw [← hELe]; exact hP.filter _
  have hEL : ∀ v w, (v, w) ∈ EL ↔ (v ∈ S ∧ w ∈ S) ∧ plt (P v) (P w) ∧ ∃ x, Tr v w x := by
    intro v w
    rw [← hELe, List.mem_filter, decide_eq_true_eq, mem_pairs]
  have s1 := filter_split (fun q : Int × Int => decide (∃ x, Tr q.1 q.2 x ∧ x ∈ S ∧ plt (P q.1) (P x))) EL
  have b1 : GM.length = (EL.filter (fun q : Int × Int => decide (∃ x, Tr q.1 q.2 x ∧ x ∈ S ∧ plt (P q.1) (P x)))).length := by
    refine len_bij (fun t => (t.1, t.2.1)) hGMn (hELn.filter _) ?_ ?_ ?_
    · rintro ⟨x, y, z⟩ h ⟨x', y', z'⟩ h' e
      have h := (hGM _ _ _).1 h
      have h' := (hGM _ _ _).1 h'
      simp at e
      obtain ⟨rfl, rfl⟩ := e
      rw [N.fn h.1.1 h'.1.1]
    · rintro ⟨x, y, z⟩ h
      obtain ⟨⟨t, hx, hy, hz⟩, h1, h2⟩ := (hGM _ _ _).1 h
      rw [List.mem_filter, decide_eq_true_eq]
      exact ⟨(hEL x y).2 ⟨⟨hx, hy⟩, h1, z, t⟩, z, t, hz, h2⟩
    · rintro ⟨v, w⟩ h
      rw [List.mem_filter, decide_eq_true_eq] at h
      obtain ⟨hm, x, t, hx, h2⟩ := h
      obtain ⟨⟨hv, hw⟩, h1, _⟩ := (hEL v w).1 hm
      exact ⟨(v, w, x), (hGM _ _ _).2 ⟨⟨t, hv, hw, hx⟩, h1, h2⟩, rfl⟩
  have b2 : (EL.filter (fun q : Int × Int => ! decide (∃ x, Tr q.1 q.2 x ∧ x ∈ S ∧ plt (P q.1) (P x)))).length = (S.filter (fun v => decide (∃ m ∈ S, plt (P v) (P m)))).length := by
    have top : ∀ v w, (v, w) ∈ EL.filter (fun q : Int × Int => ! decide (∃ x, Tr q.1 q.2 x ∧ x ∈ S ∧ plt (P q.1) (P x))) ↔ v ∈ S ∧ Top P S Tr v w := by
      intro v w
      rw [List.mem_filter, hEL]
      simp only [Bool.not_eq_true', decide_eq_false_iff_not]
      constructor
      · rintro ⟨⟨⟨hv, hw⟩, h1, h2⟩, h3⟩
        exact ⟨hv, ⟨hw, h1, h2⟩, fun x hx hxr => h3 ⟨x, hx, hxr⟩⟩
      · rintro ⟨hv, ⟨hw, h1, h2⟩, h3⟩
        exact ⟨⟨⟨hv, hw⟩, h1, h2⟩, fun ⟨x, hx, hxr⟩ => h3 x hx hxr⟩
    refine len_bij (fun q => q.1) (hELn.filter _) (hS.filter _) ?_ ?_ ?_
    · rintro ⟨v, w⟩ h ⟨v', w'⟩ h' e
      have h := (top v w).1 h
      have h' := (top v' w').1 h'
      dsimp only at e
      subst e
      rw [N.top_uniq h.1 h.2 h'.2]
    · rintro ⟨v, w⟩ h
      obtain ⟨hv, ht⟩ := (top v w).1 h
      rw [List.mem_filter, decide_eq_true_eq]
      exact ⟨hv, w, ht.1.1, ht.1.2.1⟩
    · intro v h
      rw [List.mem_filter, decide_eq_true_eq] at h
      obtain ⟨hv, m, hm, hlt⟩ := h
      obtain ⟨w, hw⟩ := N.top_ex hv hm hlt
      exact ⟨(v, w), (top v w).2 ⟨hv, hw⟩, rfl⟩
  have b3 : S.length = (S.filter (fun v => decide (∃ m ∈ S, plt (P v) (P m)))).length + 1 := by
    rw [filter_split (fun v => decide (∃ m ∈ S, plt (P v) (P m))) S]
    congr 1
    obtain ⟨m, hm, _, hmax⟩ := list_max (fun _ : Int => True) (fun x y => ple (P x) (P y)) (fun x y _ _ => by
      rcases plt_tri (P x) (P y) with h | h | h
      · exact .inl (.inl h)
      · exact .inl (.inr h)
      · exact .inr (.inl h)) (fun x y z _ _ _ h1 h2 => ple_trans h1 h2) S ⟨a, N.ma, trivial⟩
    have : (S.filter (fun v => ! decide (∃ m ∈ S, plt (P v) (P m)))).length = [m].length := by
      refine len_bij id (hS.filter _) (by simp) (fun _ _ _ _ e => e) ?_ ?_
      · intro v h
        rw [List.mem_filter] at h
        simp only [Bool.not_eq_true', decide_eq_false_iff_not] at h
        rcases hmax v h.1 trivial with k | k
        · exact absurd ⟨m, hm, k⟩ h.2
        · simp [N.inj v h.1 m hm k]
      · intro v h
        simp at h
        subst h
        refine ⟨v, ?_, rfl⟩
        rw [List.mem_filter]
        simp only [Bool.not_eq_true', decide_eq_false_iff_not]
        refine ⟨hm, ?_⟩
        rintro ⟨u, hu, k⟩
        rcases hmax u hu trivial with r | r
        · exact plt_irrefl _ (plt_trans k r)
        · rw [r] at k; exact plt_irrefl _ k
    simpa using this
  -- edges in both directions
  generalize hDEe : (pairs S).filter (fun q => decide (∃ x, Tr q.1 q.2 x)) = DE
  have hDEn : DE.Nodup := by rw [← hDEe]; exact hP.filter _
  have hDE : ∀ v w, (v, w) ∈ DE ↔ (v ∈ S ∧ w ∈ S) ∧ ∃ x, Tr v w x := by
    intro v w
    rw [← hDEe, List.mem_filter, decide_eq_true_eq, mem_pairs]
  have s2 := filter_split (fun q : Int × Int => decide (plt (P q.1) (P q.2))) DE
  have b4 : (DE.filter (fun q : Int × Int => decide (plt (P q.1) (P q.2)))).length = EL.length := by
    refine len_bij id (hDEn.filter _) hELn (fun _ _ _ _ e => e) ?_ ?_
    · rintro ⟨v, w⟩ h
      rw [List.mem_filter, decide_eq_true_eq, hDE] at h
      exact (hEL v w).2 ⟨h.1.1, h.2, h.1.2⟩
    · rintro ⟨v, w⟩ h
      have h := (hEL v w).1 h
      refine ⟨(v, w), ?_, rfl⟩
      rw [List.mem_filter, decide_eq_true_eq, hDE]
      exact ⟨⟨h.1, h.2.2⟩, h.2.1⟩
  have b5 : (DE.filter (fun q : Int × Int => ! decide (plt (P q.1) (P q.2)))).length = EL.length := by
    refine len_bij (fun q => (q.2, q.1)) (hDEn.filter _) hELn ?_ ?_ ?_
    · rintro ⟨v, w⟩ _ ⟨v', w'⟩ _ e
      simp at e ⊢; omega
    · rintro ⟨v, w⟩ h
      rw [List.mem_filter, hDE] at h
      simp only [Bool.not_eq_true', decide_eq_false_iff_not] at h
      obtain ⟨⟨⟨hv, hw⟩, x, hx⟩, h2⟩ := h
      refine (hEL w v).2 ⟨⟨hw, hv⟩, ?_, N.pair hx⟩
      rcases plt_tri (P v) (P w) with k | k | k
      · exact absurd k h2
      · exact absurd (N.inj v hv w hw k) (N.ne12 hx)
      · exact k
    · rintro ⟨w, v⟩ h
      obtain ⟨⟨hw, hv⟩, h1, x, hx⟩ := (hEL w v).1 h
      refine ⟨(v, w), ?_, rfl⟩
      rw [List.mem_filter, hDE]
      simp only [Bool.not_eq_true', decide_eq_false_iff_not]
      exact ⟨⟨⟨hv, hw⟩, N.pair hx⟩, fun k => plt_irrefl _ (plt_trans h1 k)⟩
  have s3 := filter_split (fun q : Int × Int => decide (∃ x ∈ S, Tr q.1 q.2 x)) DE
  have b6 : (allTr S Tr).length = (DE.filter (fun q : Int × Int => decide (∃ x ∈ S, Tr q.1 q.2 x))).length := by
    refine len_bij (fun t => (t.1, t.2.1)) hA (hDEn.filter _) ?_ ?_ ?_
    · rintro ⟨x, y, z⟩ h ⟨x', y', z'⟩ h' e
      have h := mem_allTr.1 h
      have h' := mem_allTr.1 h'
      simp at e
      obtain ⟨rfl, rfl⟩ := e
      rw [N.fn h.1 h'.1]
    · rintro ⟨x, y, z⟩ h
      obtain ⟨t, hx, hy, hz⟩ := mem_allTr.1 h
      rw [List.mem_filter, decide_eq_true_eq, hDE]
      exact ⟨⟨⟨hx, hy⟩, z, t⟩, z, hz, t⟩
    · rintro ⟨v, w⟩ h
      rw [List.mem_filter, decide_eq_true_eq, hDE] at h
      obtain ⟨⟨⟨hv, hw⟩, _⟩, x, hx, t⟩ := h
      exact ⟨(v, w, x), mem_allTr.2 ⟨t, hv, hw, hx⟩, rfl⟩
  have b7 : (DE.filter (fun q : Int × Int => ! decide (∃ x ∈ S, Tr q.1 q.2 x))).length = G.length := by
    refine len_bij id (hDEn.filter _) hG (fun _ _ _ _ e => e) ?_ ?_
    · rintro ⟨v, w⟩ h
      rw [List.mem_filter, hDE] at h
      simp only [Bool.not_eq_true', decide_eq_false_iff_not] at h
      obtain ⟨⟨⟨hv, hw⟩, x, hx⟩, h2⟩ := h
      rcases N.lab (N.rot (N.rot hx)) with e | e
      · subst e; exact (hGm v w).2 hx
      · exact absurd ⟨x, e, hx⟩ h2
    · rintro ⟨v, w⟩ h
      have h := (hGm v w).1 h
      have hm := N.ghost_mem h
      refine ⟨(v, w), ?_, rfl⟩
      rw [List.mem_filter, hDE]
      simp only [Bool.not_eq_true', decide_eq_false_iff_not]
      refine ⟨⟨hm, -1, h⟩, ?_⟩
      rintro ⟨x, hx, t⟩
      have := N.fn t h
      have := N.nn x hx
      omega
  omega
end
end Go.Proofs.YtgpapegpdfonpaaGreatDoor

namespace Go.Proofs.YtgpapegpdfonpaaGreatDoor
set_option linter.unusedVariables false
set_option linter.unusedSimpArgs false

/-- along a line from A to B -/
def tau (A B q : Pt) : Int := (q.1 - A.1) * (B.1 - A.1) + (q.2 - A.2) * (B.2 - A.2)
def len2 (A B : Pt) : Int := (B.1 - A.1) * (B.1 - A.1) + (B.2 - A.2) * (B.2 - A.2)
theorem len2_pos {A B : Pt} (h : A ≠ B) : 0 < len2 A B := by
  unfold len2
  have s1 := sq_nn (B.1 - A.1)
  have s2 := sq_nn (B.2 - A.2)
  by_cases e1 : B.1 = A.1
  · have e2 : B.2 ≠ A.2 := fun e2 => h (Prod.ext e1.symm e2.symm)
    have := sq_pos' (show B.2 - A.2 ≠ 0 by omega); omega
  · have := sq_pos' (show B.1 - A.1 ≠ 0 by omega); omega
theorem tau_A (A B : Pt) : tau A B A = 0 := by unfold tau; grind
theorem tau_B (A B : Pt) : tau A B B = len2 A B := rfl
theorem sd_A (A B : Pt) : sd A B A = 0 := by unfold sd; grind
theorem sd_B (A B : Pt) : sd A B B = 0 := by unfold sd; grind
theorem sd_line (A B u v q : Pt) : len2 A B * sd u v q = (tau A B v - tau A B u) * (sd A B q - sd A B u) - (sd A B v - sd A B u) * (tau A B q - tau A B u) := by
  unfold len2 sd tau; grind
theorem dt_line (A B u v q : Pt) : len2 A B * dt u v q = (tau A B q - tau A B u) * (tau A B q - tau A B v) + (sd A B q - sd A B u) * (sd A B q - sd A B v) := by
  unfold len2 sd tau dt; grind
theorem tau_inj {A B u v : Pt} (h : A ≠ B) (hu : sd A B u = 0) (hv : sd A B v = 0) (e : tau A B u = tau A B v) : u = v := by
  have hL := len2_pos h
  have e1 : len2 A B * (u.1 - v.1) = (B.1 - A.1) * (tau A B u - tau A B v) - (B.2 - A.2) * (sd A B u - sd A B v) := by unfold len2 tau sd; grind
  have e2 : len2 A B * (u.2 - v.2) = (B.2 - A.2) * (tau A B u - tau A B v) + (B.1 - A.1) * (sd A B u - sd A B v) := by unfold len2 tau sd; grind
  rw [e, hu, hv, Int.sub_self, Int.sub_self, Int.mul_zero, Int.mul_zero] at e1 e2
  have := dz hL (by omega : len2 A B * (u.1 - v.1) = 0)
  have := dz hL (by omega : len2 A B * (u.2 - v.2) = 0)
  exact Prod.ext (by omega) (by omega)

structure Poly (P : Int → Pt) (S : List Int) (h : Nat → Pt) (m : Nat) : Prop where
  three : 3 ≤ m
  mem : ∀ i, i < m → ∃ u ∈ S, P u = h i
  edge : ∀ i, i < m → ∀ q ∈ S, 0 ≤ sd (h i) (h ((i + 1) % m)) (P q) ∧ (sd (h i) (h ((i + 1) % m)) (P q) = 0 → dt (h i) (h ((i + 1) % m)) (P q) ≤ 0)
  turn : ∀ i, i < m → 0 < sd (h i) (h ((i + 1) % m)) (h ((i + 2) % m))
  inj : ∀ i j, i < m → j < m → h i = h j → i = j

section
variable {P : Int → Pt} {S : List Int} {a b c : Int} {Tr : Int → Int → Int → Prop} {h : Nat → Pt} {m : Nat}

theorem prev_ex {i m : Nat} (hm : 3 ≤ m) (hi : i < m) : ∃ k, k < m ∧ (k + 1) % m = i ∧ (k + 2) % m = (i + 1) % m := by
  by_cases h0 : i = 0
  · subst h0
    refine ⟨m - 1, by omega, ?_, ?_⟩
    · rw [show m - 1 + 1 = m by omega, Nat.mod_self]
    · rw [show m - 1 + 2 = 1 + m by omega, Nat.add_mod_right]
  · refine ⟨i - 1, by omega, ?_, ?_⟩
    · rw [show i - 1 + 1 = i by omega, Nat.mod_eq_of_lt hi]
    · rw [show i - 1 + 2 = i + 1 by omega]

theorem Poly.ne (Y : Poly P S h m) {i : Nat} (hi : i < m) : h i ≠ h ((i + 1) % m) := by
  intro e
  have := Y.turn i hi
  rw [← e] at this
  have z : sd (h i) (h i) (h ((i + 2) % m)) = 0 := by unfold sd; grind
  omega

/-- each edge of the boundary lies along one edge of the corners -/
theorem NetOf.on_edge (N : NetOf P S a b c Tr) (Y : Poly P S h m) {x y : Int} (ht : Tr x y (-1)) : ∃ i, i < m ∧ sd (h i) (h ((i + 1) % m)) (P x) = 0 ∧ sd (h i) (h ((i + 1) % m)) (P y) = 0 := by
  obtain ⟨hy, hx, hne, hall⟩ := N.bnd_of ht
  have hPne : P y ≠ P x := fun e => hne (N.inj y hy x hx e)
  have hc : ∀ i, i < m → 0 ≤ sd (P y) (P x) (h i) := by
    intro i hi
    obtain ⟨u, hu, e⟩ := Y.mem i hi
    rw [← e]; exact (hall u hu).1
  obtain ⟨i, hi, _, hmin⟩ := list_max (fun _ : Nat => True) (fun s t => sd (P y) (P x) (h t) ≤ sd (P y) (P x) (h s)) (fun s t _ _ => Int.le_total _ _) (fun s t r _ _ _ h1 h2 => Int.le_trans h2 h1) (List.range m) ⟨0, List.mem_range.2 (by have := Y.three; omega), trivial⟩
  have hi := List.mem_range.1 hi
  obtain ⟨k, hk, e1, e2⟩ := prev_ex Y.three hi
  have hD := Y.turn k hk
  rw [e1, e2] at hD
  have hk1 : (i + 1) % m < m := Nat.mod_lt _ (by omega)
  have c1 := hmin k (List.mem_range.2 hk) trivial
  have c2 := hmin _ (List.mem_range.2 hk1) trivial
  have n0 := hc i hi
  have n1 := hc k hk
  have n2 := hc _ hk1
  -- of a point z on the line of y and x
  have key : ∀ u ∈ S, sd (P y) (P x) (P u) = 0 → sd (P y) (P x) (h i) = 0 ∧ sd (h k) (h i) (P u) * sd (P y) (P x) (h ((i + 1) % m)) = 0 ∧ sd (h i) (h ((i + 1) % m)) (P u) * sd (P y) (P x) (h k) = 0 := by
    intro u hu hz
    have s1 : 0 ≤ sd (h k) (h i) (P u) := by have := (Y.edge k hk u hu).1; rw [e1] at this; exact this
    have s2 : 0 ≤ sd (h i) (h ((i + 1) % m)) (P u) := (Y.edge i hi u hu).1
    generalize h ((i + 1) % m) = B at *
    generalize h i = O at *
    generalize h k = A at *
    have e : sd A O B * (sd (P y) (P x) (P u) - sd (P y) (P x) O) = sd A O (P u) * (sd (P y) (P x) B - sd (P y) (P x) O) + sd O B (P u) * (sd (P y) (P x) A - sd (P y) (P x) O) := by
      unfold sd; grind
    rw [hz] at e
    have t1 := mnn s1 (show 0 ≤ sd (P y) (P x) B - sd (P y) (P x) O by omega)
    have t2 := mnn s2 (show 0 ≤ sd (P y) (P x) A - sd (P y) (P x) O by omega)
    have t3 : sd A O B * (0 - sd (P y) (P x) O) = -(sd A O B * sd (P y) (P x) O) := by grind
    have t4 := mnn (Int.le_of_lt hD) n0
    have z0 : sd (P y) (P x) O = 0 := dz hD (by omega)
    rw [z0, Int.sub_zero, Int.mul_zero] at e
    rw [z0, Int.sub_zero] at t1 t2
    rw [Int.sub_zero, Int.sub_zero] at e
    exact ⟨z0, by omega, by omega⟩
  have zx : sd (P y) (P x) (P x) = 0 := sd_B _ _
  have zy : sd (P y) (P x) (P y) = 0 := sd_A _ _
  obtain ⟨k0, kx1, kx2⟩ := key x hx zx
  obtain ⟨_, ky1, ky2⟩ := key y hy zy
  -- both ends of one edge lie on the line
  have fin : ∀ A B : Pt, sd (P y) (P x) A = 0 → sd (P y) (P x) B = 0 → sd A B (P x) = 0 ∧ sd A B (P y) = 0 := by
    intro A B hA hB
    have hL := len2_pos hPne
    have f1 := sd_line (P y) (P x) A B (P x)
    have f2 := sd_line (P y) (P x) A B (P y)
    rw [hA, hB, sd_B] at f1
    rw [hA, hB, sd_A] at f2
    simp only [Int.sub_self, Int.mul_zero, Int.zero_mul] at f1 f2
    exact ⟨dz hL f1, dz hL f2⟩
  by_cases zB : sd (P y) (P x) (h ((i + 1) % m)) = 0
  · exact ⟨i, hi, fin _ _ k0 zB⟩
  · by_cases zA : sd (P y) (P x) (h k) = 0
    · refine ⟨k, hk, ?_⟩
      rw [e1]; exact fin _ _ zA k0
    · exfalso
      have a1 := dz (show 0 < sd (P y) (P x) (h ((i + 1) % m)) by omega) (by rw [Int.mul_comm]; exact kx1)
      have a2 := dz (show 0 < sd (P y) (P x) (h k) by omega) (by rw [Int.mul_comm]; exact kx2)
      have b1 := dz (show 0 < sd (P y) (P x) (h ((i + 1) % m)) by omega) (by rw [Int.mul_comm]; exact ky1)
      have b2 := dz (show 0 < sd (P y) (P x) (h k) by omega) (by rw [Int.mul_comm]; exact ky2)
      have z : ∀ u : Pt, sd (h k) (h i) u = 0 → sd (h i) (h ((i + 1) % m)) u = 0 → u = h i := by
        intro u h1 h2
        generalize h ((i + 1) % m) = B at *
        generalize h i = O at *
        generalize h k = A at *
        have f1 : sd A O B * (u.1 - O.1) = sd A O u * (B.1 - O.1) + sd O B u * (A.1 - O.1) := by unfold sd; grind
        have f2 : sd A O B * (u.2 - O.2) = sd A O u * (B.2 - O.2) + sd O B u * (A.2 - O.2) := by unfold sd; grind
        rw [h1, h2, Int.zero_mul, Int.zero_mul] at f1 f2
        have := dz hD (by omega : sd A O B * (u.1 - O.1) = 0)
        have := dz hD (by omega : sd A O B * (u.2 - O.2) = 0)
        exact Prod.ext (by omega) (by omega)
      exact hPne ((z _ b1 b2).trans (z _ a1 a2).symm)

theorem Poly.tau_range (Y : Poly P S h m) {i : Nat} (hi : i < m) {u : Int} (hu : u ∈ S) (h0 : sd (h i) (h ((i + 1) % m)) (P u) = 0) : 0 ≤ tau (h i) (h ((i + 1) % m)) (P u) ∧ tau (h i) (h ((i + 1) % m)) (P u) ≤ len2 (h i) (h ((i + 1) % m)) := by
  have hd := (Y.edge i hi u hu).2 h0
  have hL := len2_pos (Y.ne hi)
  have e := dt_line (h i) (h ((i + 1) % m)) (h i) (h ((i + 1) % m)) (P u)
  rw [h0, sd_A, sd_B, tau_A, tau_B] at e
  generalize tau (h i) (h ((i + 1) % m)) (P u) = t at *
  generalize len2 (h i) (h ((i + 1) % m)) = L at *
  have := mnq (Int.le_of_lt hL) hd
  simp only [Int.sub_zero, Int.sub_self, Int.mul_zero, Int.zero_mul, Int.add_zero] at e
  have k : t * (t - L) ≤ 0 := by omega
  constructor
  · rcases Int.lt_or_le t 0 with r | r
    · have := mmm r (show t - L < 0 by omega); omega
    · exact r
  · rcases Int.lt_or_le L t with r | r
    · have := mpp (show 0 < t by omega) (show 0 < t - L by omega); omega
    · exact r

/-- two points on the line of an edge, with none between: neighbours -/
theorem Poly.bnd (Y : Poly P S h m) {i : Nat} (hi : i < m) {u v : Int} (hu : u ∈ S) (hv : v ∈ S) (hu0 : sd (h i) (h ((i + 1) % m)) (P u) = 0) (hv0 : sd (h i) (h ((i + 1) % m)) (P v) = 0)
    (hlt : tau (h i) (h ((i + 1) % m)) (P u) < tau (h i) (h ((i + 1) % m)) (P v))
    (hno : ∀ q ∈ S, sd (h i) (h ((i + 1) % m)) (P q) = 0 → tau (h i) (h ((i + 1) % m)) (P q) ≤ tau (h i) (h ((i + 1) % m)) (P u) ∨ tau (h i) (h ((i + 1) % m)) (P v) ≤ tau (h i) (h ((i + 1) % m)) (P q)) : Bnd P S u v := by
  have hL := len2_pos (Y.ne hi)
  refine ⟨hu, hv, by intro e; subst e; omega, fun q hq => ?_⟩
  have hs := (Y.edge i hi q hq).1
  have hn := hno q hq
  have f := sd_line (h i) (h ((i + 1) % m)) (P u) (P v) (P q)
  have g := dt_line (h i) (h ((i + 1) % m)) (P u) (P v) (P q)
  rw [hu0, hv0] at f g
  generalize sd (h i) (h ((i + 1) % m)) (P q) = s at *
  generalize tau (h i) (h ((i + 1) % m)) (P u) = tu at *
  generalize tau (h i) (h ((i + 1) % m)) (P v) = tv at *
  generalize tau (h i) (h ((i + 1) % m)) (P q) = tq at *
  generalize len2 (h i) (h ((i + 1) % m)) = L at *
  simp only [Int.sub_zero, Int.sub_self, Int.zero_mul] at f g
  refine ⟨dnn hL ?_, fun e => ?_⟩
  · rw [f]; exact mnn (by omega) hs
  · rw [e, Int.mul_zero] at f
    have hs0 : s = 0 := dz (show 0 < tv - tu by omega) f.symm
    rw [hs0, Int.mul_zero, Int.add_zero] at g
    refine dnn hL ?_
    rw [g]
    rcases hn hs0 with k | k
    · exact mqq (by omega) (by omega)
    · exact mnn (by omega) (by omega)

theorem NetOf.edge_next (N : NetOf P S a b c Tr) (Y : Poly P S h m) {i : Nat} (hi : i < m) {u : Int} (hu : u ∈ S) (hu0 : sd (h i) (h ((i + 1) % m)) (P u) = 0) (hne : P u ≠ h ((i + 1) % m)) :
    ∃ v ∈ S, sd (h i) (h ((i + 1) % m)) (P v) = 0 ∧ Tr v u (-1) := by
  have r := Y.tau_range hi hu hu0
  have hlt : tau (h i) (h ((i + 1) % m)) (P u) < len2 (h i) (h ((i + 1) % m)) := by
    rcases Int.lt_or_le (tau (h i) (h ((i + 1) % m)) (P u)) (len2 (h i) (h ((i + 1) % m))) with k | k
    · exact k
    · exact absurd (tau_inj (Y.ne hi) hu0 (sd_B _ _) (by rw [tau_B]; omega)) hne
  obtain ⟨w, hw, ew⟩ := Y.mem ((i + 1) % m) (Nat.mod_lt _ (by omega))
  obtain ⟨v, hv, ⟨hv0, hvl⟩, hmin⟩ := list_max (fun v => sd (h i) (h ((i + 1) % m)) (P v) = 0 ∧ tau (h i) (h ((i + 1) % m)) (P u) < tau (h i) (h ((i + 1) % m)) (P v))
    (fun x y => tau (h i) (h ((i + 1) % m)) (P y) ≤ tau (h i) (h ((i + 1) % m)) (P x)) (fun x y _ _ => Int.le_total _ _) (fun x y z _ _ _ h1 h2 => Int.le_trans h2 h1) S
    ⟨w, hw, by rw [ew]; exact sd_B _ _, by rw [ew, tau_B]; exact hlt⟩
  refine ⟨v, hv, hv0, N.of_bnd (Y.bnd hi hu hv hu0 hv0 hvl ?_)⟩
  intro q hq hq0
  rcases Int.lt_or_le (tau (h i) (h ((i + 1) % m)) (P u)) (tau (h i) (h ((i + 1) % m)) (P q)) with k | k
  · exact .inr (hmin q hq ⟨hq0, k⟩)
  · exact .inl k

theorem NetOf.edge_prev (N : NetOf P S a b c Tr) (Y : Poly P S h m) {i : Nat} (hi : i < m) {u : Int} (hu : u ∈ S) (hu0 : sd (h i) (h ((i + 1) % m)) (P u) = 0) (hne : P u ≠ h i) :
    ∃ v ∈ S, sd (h i) (h ((i + 1) % m)) (P v) = 0 ∧ Tr u v (-1) := by
  have r := Y.tau_range hi hu hu0
  have hlt : 0 < tau (h i) (h ((i + 1) % m)) (P u) := by
    rcases Int.lt_or_le 0 (tau (h i) (h ((i + 1) % m)) (P u)) with k | k
    · exact k
    · exact absurd (tau_inj (Y.ne hi) hu0 (sd_A _ _) (by rw [tau_A]; omega)) hne
  obtain ⟨w, hw, ew⟩ := Y.mem i hi
  obtain ⟨v, hv, ⟨hv0, hvl⟩, hmax⟩ := list_max (fun v => sd (h i) (h ((i + 1) % m)) (P v) = 0 ∧ tau (h i) (h ((i + 1) % m)) (P v) < tau (h i) (h ((i + 1) % m)) (P u))
    (fun x y => tau (h i) (h ((i + 1) % m)) (P x) ≤ tau (h i) (h ((i + 1) % m)) (P y)) (fun x y _ _ => Int.le_total _ _) (fun x y z _ _ _ h1 h2 => Int.le_trans h1 h2) S
    ⟨w, hw, by rw [ew]; exact sd_A _ _, by rw [ew, tau_A]; exact hlt⟩
  refine ⟨v, hv, hv0, N.of_bnd (Y.bnd hi hv hu hv0 hu0 hvl ?_)⟩
  intro q hq hq0
  rcases Int.lt_or_le (tau (h i) (h ((i + 1) % m)) (P q)) (tau (h i) (h ((i + 1) % m)) (P u)) with k | k
  · exact .inl (hmax q hq ⟨hq0, k⟩)
  · exact .inr k

/-- a boundary's edge goes with the corners -/
theorem NetOf.edge_dir (N : NetOf P S a b c Tr) (Y : Poly P S h m) {i : Nat} (hi : i < m) {x y : Int} (ht : Tr x y (-1)) (hx0 : sd (h i) (h ((i + 1) % m)) (P x) = 0) (hy0 : sd (h i) (h ((i + 1) % m)) (P y) = 0) :
    tau (h i) (h ((i + 1) % m)) (P y) < tau (h i) (h ((i + 1) % m)) (P x) := by
  have hs := N.ghost_sum ht
  have hL := len2_pos (Y.ne hi)
  rcases Int.lt_or_le (tau (h i) (h ((i + 1) % m)) (P y)) (tau (h i) (h ((i + 1) % m)) (P x)) with k | k
  · exact k
  · exfalso
    have key : ∀ q ∈ S, 0 ≤ sd (P x) (P y) (P q) := by
      intro q hq
      have f := sd_line (h i) (h ((i + 1) % m)) (P x) (P y) (P q)
      rw [hx0, hy0] at f
      simp only [Int.sub_zero, Int.sub_self, Int.zero_mul] at f
      refine dnn hL ?_
      rw [f]
      exact mnn (by omega) (Y.edge i hi q hq).1
    have := key a N.ma
    have := key b N.mb
    have := key c N.mc
    omega

/-- the points on the rim of the corners are those on the boundary of the net -/
theorem NetOf.rim_iff (N : NetOf P S a b c Tr) (Y : Poly P S h m) {u : Int} (hu : u ∈ S) : (∃ i, i < m ∧ sd (h i) (h ((i + 1) % m)) (P u) = 0) ↔ ∃ y, Tr u y (-1) := by
  constructor
  · rintro ⟨i, hi, h0⟩
    by_cases hne : P u = h i
    · obtain ⟨v, hv, _, ht⟩ := N.edge_next Y hi hu h0 (by rw [hne]; exact Y.ne hi)
      obtain ⟨d, hd⟩ := N.pair (N.rot ht)
      exact ⟨d, N.rot hd⟩
    · obtain ⟨v, hv, _, ht⟩ := N.edge_prev Y hi hu h0 hne
      exact ⟨v, ht⟩
  · rintro ⟨y, ht⟩
    obtain ⟨i, hi, h0, _⟩ := N.on_edge Y ht
    exact ⟨i, hi, h0⟩

theorem two_same {A B C D : Pt} (hAB : A ≠ B) (hCD : C ≠ D) (hC : sd A B C = 0) (hD : sd A B D = 0) (h1 : dt A B C ≤ 0) (h2 : dt A B D ≤ 0) (h3 : dt C D A ≤ 0) (h4 : dt C D B ≤ 0) : (C = A ∧ D = B) ∨ (C = B ∧ D = A) := by
  have hL := len2_pos hAB
  have f1 := dt_line A B A B C
  have f2 := dt_line A B A B D
  have f3 := dt_line A B C D A
  have f4 := dt_line A B C D B
  rw [sd_A, sd_B, hC, tau_A, tau_B] at f1
  rw [sd_A, sd_B, hD, tau_A, tau_B] at f2
  rw [sd_A, hC, hD, tau_A] at f3
  rw [sd_B, hC, hD, tau_B] at f4
  have j : ∀ {u v : Pt}, sd A B u = 0 → sd A B v = 0 → tau A B u = tau A B v → u = v := fun hu hv e => tau_inj hAB hu hv e
  have jC0 := j hC (sd_A A B)
  have jCL := j hC (sd_B A B)
  have jD0 := j hD (sd_A A B)
  have jDL := j hD (sd_B A B)
  rw [tau_A] at jC0 jD0
  rw [tau_B] at jCL jDL
  generalize tau A B C = s at *
  generalize tau A B D = t at *
  generalize len2 A B = L at *
  simp only [Int.sub_zero, Int.sub_self, Int.mul_zero, Int.zero_mul, Int.add_zero, Int.zero_sub] at f1 f2 f3 f4
  have m1 := mnq (Int.le_of_lt hL) h1
  have m2 := mnq (Int.le_of_lt hL) h2
  have m3 := mnq (Int.le_of_lt hL) h3
  have m4 := mnq (Int.le_of_lt hL) h4
  have rng : ∀ r : Int, r * (r - L) ≤ 0 → 0 ≤ r ∧ r ≤ L := by
    intro r hr
    constructor
    · rcases Int.lt_or_le r 0 with k | k
      · have := mmm k (show r - L < 0 by omega); omega
      · exact k
    · rcases Int.lt_or_le L r with k | k
      · have := mpp (show 0 < r by omega) (show 0 < r - L by omega); omega
      · exact k
  have rs := rng s (by omega)
  have rt := rng t (by omega)
  have z : s = 0 ∨ t = 0 := by
    rcases Int.lt_or_le 0 s with k | k
    · rcases Int.lt_or_le 0 t with k' | k'
      · have := mpp k k'
        have e : -s * -t = s * t := Int.neg_mul_neg _ _
        omega
      · right; omega
    · left; omega
  have y : s = L ∨ t = L := by
    rcases Int.lt_or_le s L with k | k
    · rcases Int.lt_or_le t L with k' | k'
      · have := mpp (show 0 < L - s by omega) (show 0 < L - t by omega); omega
      · right; omega
    · left; omega
  rcases z with z | z
  · rcases y with y | y
    · omega
    · exact .inl ⟨jC0 z, jDL y⟩
  · rcases y with y | y
    · exact .inr ⟨jCL y, jD0 z⟩
    · omega

/-- two edges of the corners that have two points together are one -/
theorem Poly.edge_uniq (Y : Poly P S h m) {i j : Nat} (hi : i < m) (hj : j < m) {x y : Int} (hx : x ∈ S) (hy : y ∈ S) (hne : P x ≠ P y)
    (ix : sd (h i) (h ((i + 1) % m)) (P x) = 0) (iy : sd (h i) (h ((i + 1) % m)) (P y) = 0) (jx : sd (h j) (h ((j + 1) % m)) (P x) = 0) (jy : sd (h j) (h ((j + 1) % m)) (P y) = 0) : i = j := by
  have hi1 : (i + 1) % m < m := Nat.mod_lt _ (by omega)
  have hj1 : (j + 1) % m < m := Nat.mod_lt _ (by omega)
  have col : ∀ A B : Pt, sd A B (P x) = 0 → sd A B (P y) = 0 → A ≠ B → sd (P x) (P y) A = 0 ∧ sd (P x) (P y) B = 0 := by
    intro A B h1 h2 hAB
    have hL := len2_pos hAB
    have f1 := sd_line A B (P x) (P y) A
    have f2 := sd_line A B (P x) (P y) B
    rw [h1, h2, sd_A] at f1
    rw [h1, h2, sd_B] at f2
    simp only [Int.sub_self, Int.mul_zero, Int.zero_mul] at f1 f2
    exact ⟨dz hL f1, dz hL f2⟩
  have ci := col _ _ ix iy (Y.ne hi)
  have cj := col _ _ jx jy (Y.ne hj)
  have on : ∀ A B C : Pt, sd (P x) (P y) A = 0 → sd (P x) (P y) B = 0 → sd (P x) (P y) C = 0 → sd A B C = 0 := by
    intro A B C h1 h2 h3
    have hL := len2_pos hne
    have f := sd_line (P x) (P y) A B C
    rw [h1, h2, h3] at f
    simp only [Int.sub_self, Int.mul_zero, Int.zero_mul] at f
    exact dz hL f
  have at' : ∀ k l, k < m → l < m → sd (h k) (h ((k + 1) % m)) (h l) = 0 → dt (h k) (h ((k + 1) % m)) (h l) ≤ 0 := by
    intro k l hk hl h0
    obtain ⟨u, hu, e⟩ := Y.mem l hl
    rw [← e] at h0 ⊢
    exact (Y.edge k hk u hu).2 h0
  have c1 := on _ _ _ ci.1 ci.2 cj.1
  have c2 := on _ _ _ ci.1 ci.2 cj.2
  have c3 := on _ _ _ cj.1 cj.2 ci.1
  have c4 := on _ _ _ cj.1 cj.2 ci.2
  rcases two_same (Y.ne hi) (Y.ne hj) c1 c2 (at' i j hi hj c1) (at' i _ hi hj1 c2) (at' j i hj hi c3) (at' j _ hj hi1 c4) with ⟨e, _⟩ | ⟨e1, e2⟩
  · exact (Y.inj j i hj hi e).symm
  · exfalso
    have q1 := Y.inj j _ hj hi1 e1
    have q2 := Y.inj _ i hj1 hi e2
    have t := Y.turn i hi
    have : (i + 2) % m = i := by
      rw [show i + 2 = (i + 1) + 1 by omega, Nat.add_mod, ← q1, ← q2]
      conv => rhs; rw [Nat.add_mod, Nat.mod_eq_of_lt hj]
    rw [this] at t
    have z : sd (h i) (h ((i + 1) % m)) (h i) = 0 := sd_A _ _
    omega
end
end Go.Proofs.YtgpapegpdfonpaaGreatDoor

namespace Go.Proofs.YtgpapegpdfonpaaGreatDoor
set_option linter.unusedVariables false
set_option linter.unusedSimpArgs false

def lsum {α : Type} (f : α → Int) : List α → Int
  | [] => 0
  | a :: L => f a + lsum f L
theorem lsum_append {α : Type} (f : α → Int) : ∀ L M : List α, lsum f (L ++ M) = lsum f L + lsum f M
  | [], M => by simp [lsum]
  | a :: L, M => by simp only [List.cons_append, lsum, lsum_append f L M]; omega
theorem lsum_congr {α : Type} {f g : α → Int} : ∀ {L : List α}, (∀ x ∈ L, f x = g x) → lsum f L = lsum g L
  | [], _ => rfl
  | a :: L, h => by simp only [lsum]; rw [h a (by simp), lsum_congr (fun x hx => h x (by simp [hx]))]
theorem lsum_add {α : Type} (f g : α → Int) : ∀ L : List α, lsum (fun x => f x + g x) L = lsum f L + lsum g L
  | [] => rfl
  | a :: L => by simp only [lsum, lsum_add f g L]; omega
theorem lsum_neg {α : Type} (f : α → Int) : ∀ L : List α, lsum (fun x => - f x) L = - lsum f L
  | [] => rfl
  | a :: L => by simp only [lsum, lsum_neg f L]; omega
theorem lsum_erase {α : Type} [DecidableEq α] (f : α → Int) : ∀ (L : List α) (a : α), a ∈ L → lsum f L = f a + lsum f (L.erase a)
  | [], a, h => by simp at h
  | b :: L, a, h => by
    by_cases e : b = a
    · subst e; simp [lsum]
    · have ha : a ∈ L := by
        rcases List.mem_cons.1 h with k | k
        · exact absurd k.symm e
        · exact k
      rw [List.erase_cons_tail (by simpa using e)]
      simp only [lsum, lsum_erase f L a ha]
      omega
theorem lsum_bij {α β : Type} {f : α → Int} {g : β → Int} (φ : α → β) : ∀ {L : List α} {M : List β}, L.Nodup → M.Nodup → (∀ x ∈ L, ∀ y ∈ L, φ x = φ y → x = y) → (∀ x ∈ L, φ x ∈ M) → (∀ y ∈ M, ∃ x ∈ L, φ x = y) → (∀ x ∈ L, f x = g (φ x)) → lsum f L = lsum g M := by
  classical
  intro L
  induction L with
  | nil =>
    intro M _ _ _ _ hs _
    have : M = [] := by
      cases M with
      | nil => rfl
      | cons y M => obtain ⟨x, hx, _⟩ := hs y (by simp); simp at hx
    subst this; rfl
  | cons a L ih =>
    intro M hL hM hi hm hs hf
    have hL' := List.nodup_cons.1 hL
    have ha : φ a ∈ M := hm a (by simp)
    rw [lsum_erase g M (φ a) ha]
    simp only [lsum]
    rw [hf a (by simp)]
    congr 1
    refine ih hL'.2 (hM.erase _) (fun x hx y hy => hi x (by simp [hx]) y (by simp [hy])) ?_ ?_ (fun x hx => hf x (by simp [hx]))
    · intro x hx
      have hne : φ x ≠ φ a := fun e => hL'.1 (hi x (by simp [hx]) a (by simp) e ▸ hx)
      exact (List.mem_erase_of_ne hne).2 (hm x (by simp [hx]))
    · intro y hy
      have hy' := List.mem_of_mem_erase hy
      obtain ⟨x, hx, e⟩ := hs y hy'
      rcases List.mem_cons.1 hx with k | k
      · subst k
        rw [← e] at hy
        exact absurd hy (hM.not_mem_erase)
      · exact ⟨x, k, e⟩
theorem lsum_split {α : Type} (f : α → Int) (p : α → Bool) : ∀ L : List α, lsum f L = lsum f (L.filter p) + lsum f (L.filter (fun x => ! p x))
  | [] => rfl
  | a :: L => by
    have := lsum_split f p L
    by_cases h : p a
    · simp [h, lsum]; omega
    · simp [h, lsum]; omega
theorem lsum_three {α : Type} (f : α → Int) (p q r : α → Bool) : ∀ L : List α, (∀ x ∈ L, (p x = true ∧ q x = false ∧ r x = false) ∨ (p x = false ∧ q x = true ∧ r x = false) ∨ (p x = false ∧ q x = false ∧ r x = true)) →
    lsum f L = lsum f (L.filter p) + lsum f (L.filter q) + lsum f (L.filter r)
  | [], _ => rfl
  | a :: L, h => by
    have ih := lsum_three f p q r L (fun x hx => h x (by simp [hx]))
    rcases h a (by simp) with ⟨h1, h2, h3⟩ | ⟨h1, h2, h3⟩ | ⟨h1, h2, h3⟩ <;> simp [h1, h2, h3, lsum] <;> omega
theorem lsum_zero {α : Type} {f : α → Int} : ∀ {L : List α}, (∀ x ∈ L, f x = 0) → lsum f L = 0
  | [], _ => rfl
  | a :: L, h => by simp only [lsum]; rw [h a (by simp), lsum_zero (fun x hx => h x (by simp [hx]))]; rfl
theorem lsum_one {α : Type} {f : α → Int} : ∀ {L : List α} {a : α}, L.Nodup → a ∈ L → (∀ x ∈ L, x ≠ a → f x = 0) → lsum f L = f a
  | [], a, _, h, _ => by simp at h
  | b :: L, a, hn, h, hz => by
    have hn' := List.nodup_cons.1 hn
    simp only [lsum]
    by_cases e : b = a
    · subst e
      rw [lsum_zero (fun x hx => hz x (by simp [hx]) (fun e => hn'.1 (e ▸ hx)))]; omega
    · have ha : a ∈ L := by
        rcases List.mem_cons.1 h with k | k
        · exact absurd k.symm e
        · exact k
      rw [hz b (by simp) e, lsum_one hn'.2 ha (fun x hx => hz x (by simp [hx]))]; omega

/-- elements that lie in one class each -/
theorem lsum_classes {α : Type} (f : α → Int) (m : Nat) (p : Nat → α → Bool) : ∀ L : List α, (∀ x ∈ L, ∃ i, i < m ∧ p i x = true ∧ ∀ j, j < m → p j x = true → j = i) → lsum f L = lsum (fun i => lsum f (L.filter (p i))) (List.range m)
  | [], _ => (lsum_zero (L := List.range m) (f := fun i => lsum f (List.filter (p i) [])) (fun i _ => rfl)).symm
  | a :: L, h => by
    have ih := lsum_classes f m p L (fun x hx => h x (by simp [hx]))
    obtain ⟨i, hi, h1, h2⟩ := h a (by simp)
    have e : lsum (fun i => lsum f ((a :: L).filter (p i))) (List.range m) = lsum (fun i => (if p i a = true then f a else 0) + lsum f (L.filter (p i))) (List.range m) := by
      refine lsum_congr (fun j _ => ?_)
      by_cases k : p j a = true
      · simp [k, lsum]
      · simp [k, lsum]
    rw [e, lsum_add, ← ih]
    simp only [lsum]
    congr 1
    rw [lsum_one (a := i) List.nodup_range (List.mem_range.2 hi)]
    · rw [if_pos h1]
    · intro j hj hne
      rw [if_neg (fun k => hne (h2 j (List.mem_range.1 hj) k))]

def cr (u v : Pt) : Int := u.1 * v.2 - u.2 * v.1
theorem cr_swap (u v : Pt) : cr u v = - cr v u := by unfold cr; grind
theorem sd_cr (x y z : Pt) : sd x y z = cr x y + cr y z + cr z x := by unfold sd cr; grind

/-- twice the area of the corners, by a fan of k of them -/
def fan (h : Nat → Pt) : Nat → Int
  | 0 => 0
  | k + 1 => fan h k + (if 2 ≤ k then sd (h 0) (h (k - 1)) (h k) else 0)
theorem fan_le (h : Nat → Pt) : ∀ k, k ≤ 2 → fan h k = 0 := by
  intro k hk
  match k, hk with
  | 0, _ => rfl
  | 1, _ => rfl
  | 2, _ => rfl
theorem fan_cr (h : Nat → Pt) : ∀ k, fan h (k + 2) = lsum (fun i => cr (h i) (h (i + 1))) (List.range (k + 1)) + cr (h (k + 1)) (h 0)
  | 0 => by
    rw [fan_le h 2 (by omega)]
    simp only [Nat.zero_add, List.range_one, lsum]
    have := cr_swap (h 0) (h 1)
    omega
  | k + 1 => by
    have ih := fan_cr h k
    rw [List.range_succ, lsum_append]
    simp only [lsum]
    show fan h (k + 2) + (if 2 ≤ k + 2 then sd (h 0) (h (k + 2 - 1)) (h (k + 2)) else 0) = _
    rw [ih, if_pos (by omega), show k + 2 - 1 = k + 1 by omega, sd_cr]
    have := cr_swap (h 0) (h (k + 1))
    simp only [show k + 1 + 1 = k + 2 by omega]
    omega

section
variable {P : Int → Pt} {S : List Int} {a b c : Int} {Tr : Int → Int → Int → Prop} {h : Nat → Pt} {m : Nat}
open Classical

theorem fan_all (hm : 3 ≤ m) : fan h m = lsum (fun i => cr (h i) (h ((i + 1) % m))) (List.range m) := by
  obtain ⟨k, rfl⟩ : ∃ k, m = k + 2 := ⟨m - 2, by omega⟩
  rw [fan_cr, List.range_succ (n := k + 1), lsum_append]
  simp only [lsum]
  rw [show k + 1 + 1 = k + 2 by omega, Nat.mod_self]
  have : lsum (fun i => cr (h i) (h ((i + 1) % (k + 2)))) (List.range (k + 1)) = lsum (fun i => cr (h i) (h (i + 1))) (List.range (k + 1)) := by
    refine lsum_congr (fun i hi => ?_)
    rw [Nat.mod_eq_of_lt (by have := List.mem_range.1 hi; omega)]
  rw [this]; omega

theorem NetOf.area_ts (N : NetOf P S a b c Tr) (hS : S.Nodup) (ts : List (Int × Int × Int)) (hts : ts.Nodup) (hmem : ∀ x y z, (x, y, z) ∈ ts ↔ Tr x y z ∧ 0 ≤ x ∧ x < y ∧ x < z)
    (G : List (Int × Int)) (hG : G.Nodup) (hGm : ∀ x y, (x, y) ∈ G ↔ Tr x y (-1)) :
    lsum (fun t => sd (P t.1) (P t.2.1) (P t.2.2)) ts = lsum (fun q => cr (P q.2) (P q.1)) G := by
  have hA := nodup_allTr (Tr := Tr) hS
  have hP := nodup_pairs hS
  have hT : ∀ x y z, (x, y, z) ∈ ts → Tr x y z ∧ x ∈ S ∧ y ∈ S ∧ z ∈ S ∧ x < y ∧ x < z := by
    intro x y z hh
    obtain ⟨t, h0, h1, h2⟩ := (hmem x y z).1 hh
    exact ⟨t, N.mem t h0, N.mem (N.rot t) (by omega), N.mem (N.rot (N.rot t)) (by omega), h1, h2⟩
  have e1 : lsum (fun t : Int × Int × Int => cr (P t.1) (P t.2.1)) (allTr S Tr) = lsum (fun t : Int × Int × Int => sd (P t.1) (P t.2.1) (P t.2.2)) ts := by
    rw [lsum_three _ (fun t : Int × Int × Int => decide (t ∈ ts)) (fun t => decide ((t.2.1, t.2.2, t.1) ∈ ts)) (fun t => decide ((t.2.2, t.1, t.2.1) ∈ ts)) (allTr S Tr) (by
      rintro ⟨x, y, z⟩ hh
      obtain ⟨t, hx, hy, hz⟩ := mem_allTr.1 hh
      obtain ⟨n1, n2, n3⟩ := N.ne3 t
      have h0 := N.nn x hx
      have h1 := N.nn y hy
      have h2 := N.nn z hz
      have t2 := N.rot t
      have t3 := N.rot t2
      simp only [decide_eq_true_eq, decide_eq_false_iff_not, hmem]
      by_cases k1 : x < y <;> by_cases k2 : x < z <;> by_cases k3 : y < z
      · exact .inl ⟨⟨t, h0, k1, k2⟩, fun r => by omega, fun r => by omega⟩
      · exact .inl ⟨⟨t, h0, k1, k2⟩, fun r => by omega, fun r => by omega⟩
      · omega
      · exact .inr (.inr ⟨fun r => by omega, fun r => by omega, ⟨t3, h2, by omega, by omega⟩⟩)
      · exact .inr (.inl ⟨fun r => by omega, ⟨t2, h1, by omega, by omega⟩, fun r => by omega⟩)
      · omega
      · exact .inr (.inl ⟨fun r => by omega, ⟨t2, h1, by omega, by omega⟩, fun r => by omega⟩)
      · exact .inr (.inr ⟨fun r => by omega, fun r => by omega, ⟨t3, h2, by omega, by omega⟩⟩))]
    have p1 : lsum (fun t : Int × Int × Int => cr (P t.1) (P t.2.1)) ((allTr S Tr).filter (fun t => decide (t ∈ ts))) = lsum (fun t : Int × Int × Int => cr (P t.1) (P t.2.1)) ts := by
      refine lsum_bij id (hA.filter _) hts (fun _ _ _ _ e => e) ?_ ?_ (fun _ _ => rfl)
      · intro t ht; rw [List.mem_filter, decide_eq_true_eq] at ht; exact ht.2
      · rintro ⟨x, y, z⟩ ht
        have := hT x y z ht
        refine ⟨(x, y, z), ?_, rfl⟩
        rw [List.mem_filter, decide_eq_true_eq]
        exact ⟨mem_allTr.2 ⟨this.1, this.2.1, this.2.2.1, this.2.2.2.1⟩, ht⟩
    have p2 : lsum (fun t : Int × Int × Int => cr (P t.1) (P t.2.1)) ((allTr S Tr).filter (fun t => decide ((t.2.1, t.2.2, t.1) ∈ ts))) = lsum (fun t : Int × Int × Int => cr (P t.2.2) (P t.1)) ts := by
      refine lsum_bij (fun t => (t.2.1, t.2.2, t.1)) (hA.filter _) hts ?_ ?_ ?_ (fun _ _ => rfl)
      · rintro ⟨x, y, z⟩ _ ⟨x', y', z'⟩ _ e
        simp at e ⊢; omega
      · intro t ht; rw [List.mem_filter, decide_eq_true_eq] at ht; exact ht.2
      · rintro ⟨x, y, z⟩ ht
        have := hT x y z ht
        refine ⟨(z, x, y), ?_, rfl⟩
        rw [List.mem_filter, decide_eq_true_eq]
        exact ⟨mem_allTr.2 ⟨N.rot (N.rot this.1), this.2.2.2.1, this.2.1, this.2.2.1⟩, ht⟩
    have p3 : lsum (fun t : Int × Int × Int => cr (P t.1) (P t.2.1)) ((allTr S Tr).filter (fun t => decide ((t.2.2, t.1, t.2.1) ∈ ts))) = lsum (fun t : Int × Int × Int => cr (P t.2.1) (P t.2.2)) ts := by
      refine lsum_bij (fun t => (t.2.2, t.1, t.2.1)) (hA.filter _) hts ?_ ?_ ?_ (fun _ _ => rfl)
      · rintro ⟨x, y, z⟩ _ ⟨x', y', z'⟩ _ e
        simp at e ⊢; omega
      · intro t ht; rw [List.mem_filter, decide_eq_true_eq] at ht; exact ht.2
      · rintro ⟨x, y, z⟩ ht
        have := hT x y z ht
        refine ⟨(y, z, x), ?_, rfl⟩
        rw [List.mem_filter, decide_eq_true_eq]
        exact ⟨mem_allTr.2 ⟨N.rot this.1, this.2.2.1, this.2.2.2.1, this.2.1⟩, ht⟩
    rw [p1, p2, p3, ← lsum_add, ← lsum_add]
    refine lsum_congr (fun t _ => ?_)
    rw [sd_cr]; omega
  generalize hDEe : (pairs S).filter (fun q => decide (∃ x, Tr q.1 q.2 x)) = DE
  have hDEn : DE.Nodup := by rw [← hDEe]; exact hP.filter _
  have hDE : ∀ v w, (v, w) ∈ DE ↔ (v ∈ S ∧ w ∈ S) ∧ ∃ x, Tr v w x := by
    intro v w
    rw [← hDEe, List.mem_filter, decide_eq_true_eq, mem_pairs]
  have e2 : lsum (fun q : Int × Int => cr (P q.1) (P q.2)) DE = 0 := by
    have : lsum (fun q : Int × Int => cr (P q.1) (P q.2)) DE = lsum (fun q : Int × Int => - cr (P q.1) (P q.2)) DE := by
      refine lsum_bij (fun q => (q.2, q.1)) hDEn hDEn ?_ ?_ ?_ ?_
      · rintro ⟨v, w⟩ _ ⟨v', w'⟩ _ e
        simp at e ⊢; omega
      · rintro ⟨v, w⟩ hh
        obtain ⟨⟨hv, hw⟩, x, hx⟩ := (hDE v w).1 hh
        exact (hDE w v).2 ⟨⟨hw, hv⟩, N.pair hx⟩
      · rintro ⟨v, w⟩ hh
        obtain ⟨⟨hv, hw⟩, x, hx⟩ := (hDE v w).1 hh
        exact ⟨(w, v), (hDE w v).2 ⟨⟨hw, hv⟩, N.pair hx⟩, rfl⟩
      · rintro ⟨v, w⟩ _
        exact cr_swap _ _
    rw [lsum_neg] at this
    omega
  have e3 := lsum_split (fun q : Int × Int => cr (P q.1) (P q.2)) (fun q : Int × Int => decide (∃ x ∈ S, Tr q.1 q.2 x)) DE
  have b6 : lsum (fun t : Int × Int × Int => cr (P t.1) (P t.2.1)) (allTr S Tr) = lsum (fun q : Int × Int => cr (P q.1) (P q.2)) (DE.filter (fun q : Int × Int => decide (∃ x ∈ S, Tr q.1 q.2 x))) := by
    refine lsum_bij (fun t => (t.1, t.2.1)) hA (hDEn.filter _) ?_ ?_ ?_ (fun _ _ => rfl)
    · rintro ⟨x, y, z⟩ h ⟨x', y', z'⟩ h' e
      have h := mem_allTr.1 h
      have h' := mem_allTr.1 h'
      simp at e
      obtain ⟨rfl, rfl⟩ := e
      rw [N.fn h.1 h'.1]
    · rintro ⟨x, y, z⟩ h
      obtain ⟨t, hx, hy, hz⟩ := mem_allTr.1 h
      rw [List.mem_filter, decide_eq_true_eq, hDE]
      exact ⟨⟨⟨hx, hy⟩, z, t⟩, z, hz, t⟩
    · rintro ⟨v, w⟩ h
      rw [List.mem_filter, decide_eq_true_eq, hDE] at h
      obtain ⟨⟨⟨hv, hw⟩, _⟩, x, hx, t⟩ := h
      exact ⟨(v, w, x), mem_allTr.2 ⟨t, hv, hw, hx⟩, rfl⟩
  have b7 : lsum (fun q : Int × Int => cr (P q.1) (P q.2)) (DE.filter (fun q : Int × Int => ! decide (∃ x ∈ S, Tr q.1 q.2 x))) = lsum (fun q : Int × Int => cr (P q.1) (P q.2)) G := by
    refine lsum_bij id (hDEn.filter _) hG (fun _ _ _ _ e => e) ?_ ?_ (fun _ _ => rfl)
    · rintro ⟨v, w⟩ h
      rw [List.mem_filter, hDE] at h
      simp only [Bool.not_eq_true', decide_eq_false_iff_not] at h
      obtain ⟨⟨⟨hv, hw⟩, x, hx⟩, h2⟩ := h
      rcases N.lab (N.rot (N.rot hx)) with e | e
      · subst e; exact (hGm v w).2 hx
      · exact absurd ⟨x, e, hx⟩ h2
    · rintro ⟨v, w⟩ h
      have h := (hGm v w).1 h
      have hm := N.ghost_mem h
      refine ⟨(v, w), ?_, rfl⟩
      rw [List.mem_filter, hDE]
      simp only [Bool.not_eq_true', decide_eq_false_iff_not]
      refine ⟨⟨hm, -1, h⟩, ?_⟩
      rintro ⟨x, hx, t⟩
      have := N.fn t h
      have := N.nn x hx
      omega
  have e4 : lsum (fun q : Int × Int => cr (P q.2) (P q.1)) G = - lsum (fun q : Int × Int => cr (P q.1) (P q.2)) G := by
    rw [← lsum_neg]
    refine lsum_congr (fun q _ => ?_)
    exact cr_swap _ _
  omega

theorem NetOf.area_G (N : NetOf P S a b c Tr) (hS : S.Nodup) (Y : Poly P S h m) (G : List (Int × Int)) (hG : G.Nodup) (hGm : ∀ x y, (x, y) ∈ G ↔ Tr x y (-1)) :
    lsum (fun q => cr (P q.2) (P q.1)) G = fan h m := by
  rw [fan_all Y.three]
  rw [lsum_classes _ m (fun i q => decide (sd (h i) (h ((i + 1) % m)) (P q.1) = 0 ∧ sd (h i) (h ((i + 1) % m)) (P q.2) = 0)) G (by
    rintro ⟨x, y⟩ hq
    have ht := (hGm x y).1 hq
    obtain ⟨hx, hy⟩ := N.ghost_mem ht
    have hne : P x ≠ P y := fun e => N.ne12 ht (N.inj x hx y hy e)
    obtain ⟨i, hi, h1, h2⟩ := N.on_edge Y ht
    refine ⟨i, hi, by simp [h1, h2], fun j hj hh => ?_⟩
    simp only [decide_eq_true_eq] at hh
    exact Y.edge_uniq hj hi hx hy hne hh.1 hh.2 h1 h2)]
  refine lsum_congr (fun i hi => ?_)
  have hi := List.mem_range.1 hi
  have hi1 : (i + 1) % m < m := Nat.mod_lt _ (by omega)
  generalize hA : h i = A
  generalize hB : h ((i + 1) % m) = B
  have hAB : A ≠ B := by rw [← hA, ← hB]; exact Y.ne hi
  have mG : ∀ x y, (x, y) ∈ G.filter (fun q : Int × Int => decide (sd A B (P q.1) = 0 ∧ sd A B (P q.2) = 0)) ↔ Tr x y (-1) ∧ sd A B (P x) = 0 ∧ sd A B (P y) = 0 := by
    intro x y
    rw [List.mem_filter, decide_eq_true_eq, hGm]
  generalize hGi : G.filter (fun q : Int × Int => decide (sd A B (P q.1) = 0 ∧ sd A B (P q.2) = 0)) = Gi at mG
  have hGin : Gi.Nodup := by rw [← hGi]; exact hG.filter _
  have t1 : lsum (fun q : Int × Int => cr (P q.2) (P q.1)) Gi = lsum (fun q : Int × Int => cr A (P q.1)) Gi - lsum (fun q : Int × Int => cr A (P q.2)) Gi := by
    have : lsum (fun q : Int × Int => cr (P q.2) (P q.1)) Gi = lsum (fun q : Int × Int => cr A (P q.1) + - cr A (P q.2)) Gi := by
      refine lsum_congr ?_
      rintro ⟨x, y⟩ hq
      obtain ⟨_, h1, h2⟩ := (mG x y).1 hq
      have z : sd (P x) (P y) A = 0 := by
        have f := sd_line A B (P x) (P y) A
        rw [h1, h2, sd_A] at f
        simp only [Int.sub_self, Int.mul_zero, Int.zero_mul] at f
        exact dz (len2_pos hAB) f
      rw [sd_cr] at z
      have s1 := cr_swap (P y) (P x)
      have s2 := cr_swap (P y) A
      dsimp only
      omega
    rw [this, lsum_add, lsum_neg]; omega
  -- the points on this edge
  generalize hSi : S.filter (fun u => decide (sd A B (P u) = 0)) = Si
  have mS : ∀ u, u ∈ Si ↔ u ∈ S ∧ sd A B (P u) = 0 := by intro u; rw [← hSi, List.mem_filter, decide_eq_true_eq]
  have hSin : Si.Nodup := by rw [← hSi]; exact hS.filter _
  have one : ∀ C : Pt, sd A B C = 0 → (∃ u ∈ S, P u = C) → lsum (fun u => cr A (P u)) Si = cr A C + lsum (fun u => cr A (P u)) (Si.filter (fun u => ! decide (P u = C))) := by
    intro C hC hu
    obtain ⟨u, hu, e⟩ := hu
    rw [lsum_split _ (fun u => decide (P u = C)) Si]
    congr 1
    rw [lsum_one (a := u) (hSin.filter _)]
    · rw [e]
    · rw [List.mem_filter, decide_eq_true_eq, mS, e]; exact ⟨⟨hu, hC⟩, rfl⟩
    · intro v hv hne
      rw [List.mem_filter, decide_eq_true_eq, mS] at hv
      exact absurd (N.inj v hv.1.1 u hu (hv.2.trans e.symm)) hne
  have oA := one A (sd_A _ _) (by obtain ⟨u, hu, e⟩ := Y.mem i hi; exact ⟨u, hu, e.trans hA⟩)
  have oB := one B (sd_B _ _) (by obtain ⟨u, hu, e⟩ := Y.mem _ hi1; exact ⟨u, hu, e.trans hB⟩)
  have zA : cr A A = 0 := by unfold cr; grind
  have t2 : lsum (fun q : Int × Int => cr A (P q.1)) Gi = lsum (fun u => cr A (P u)) (Si.filter (fun u => ! decide (P u = A))) := by
    refine lsum_bij (fun q => q.1) hGin (hSin.filter _) ?_ ?_ ?_ (fun _ _ => rfl)
    · rintro ⟨x, y⟩ hq ⟨x', y'⟩ hq' e
      have k := ((mG x y).1 hq).1
      have k' := ((mG x' y').1 hq').1
      dsimp only at e
      subst e
      rw [N.fn (N.rot (N.rot k)) (N.rot (N.rot k'))]
    · rintro ⟨x, y⟩ hq
      obtain ⟨k, h1, h2⟩ := (mG x y).1 hq
      have hd := N.edge_dir Y hi k (by rw [hA, hB]; exact h1) (by rw [hA, hB]; exact h2)
      obtain ⟨hx, hy⟩ := N.ghost_mem k
      have r := Y.tau_range hi hy (by rw [hA, hB]; exact h2)
      rw [hA, hB] at hd r
      rw [List.mem_filter, mS]
      simp only [Bool.not_eq_true', decide_eq_false_iff_not]
      refine ⟨⟨hx, h1⟩, fun e => ?_⟩
      rw [e, tau_A] at hd
      omega
    · intro u hu
      rw [List.mem_filter, mS] at hu
      simp only [Bool.not_eq_true', decide_eq_false_iff_not] at hu
      obtain ⟨v, hv, h1, ht⟩ := N.edge_prev Y hi hu.1.1 (by rw [hA, hB]; exact hu.1.2) (by rw [hA]; exact hu.2)
      rw [hA, hB] at h1
      exact ⟨(u, v), (mG u v).2 ⟨ht, hu.1.2, h1⟩, rfl⟩
  have t3 : lsum (fun q : Int × Int => cr A (P q.2)) Gi = lsum (fun u => cr A (P u)) (Si.filter (fun u => ! decide (P u = B))) := by
    refine lsum_bij (fun q => q.2) hGin (hSin.filter _) ?_ ?_ ?_ (fun _ _ => rfl)
    · rintro ⟨x, y⟩ hq ⟨x', y'⟩ hq' e
      have k := ((mG x y).1 hq).1
      have k' := ((mG x' y').1 hq').1
      dsimp only at e
      subst e
      rw [N.fn (N.rot k) (N.rot k')]
    · rintro ⟨x, y⟩ hq
      obtain ⟨k, h1, h2⟩ := (mG x y).1 hq
      have hd := N.edge_dir Y hi k (by rw [hA, hB]; exact h1) (by rw [hA, hB]; exact h2)
      obtain ⟨hx, hy⟩ := N.ghost_mem k
      have r := Y.tau_range hi hx (by rw [hA, hB]; exact h1)
      rw [hA, hB] at hd r
      rw [List.mem_filter, mS]
      simp only [Bool.not_eq_true', decide_eq_false_iff_not]
      refine ⟨⟨hy, h2⟩, fun e => ?_⟩
      rw [e, tau_B] at hd
      omega
    · intro u hu
      rw [List.mem_filter, mS] at hu
      simp only [Bool.not_eq_true', decide_eq_false_iff_not] at hu
      obtain ⟨v, hv, h1, ht⟩ := N.edge_next Y hi hu.1.1 (by rw [hA, hB]; exact hu.1.2) (by rw [hB]; exact hu.2)
      rw [hA, hB] at h1
      exact ⟨(v, u), (mG v u).2 ⟨ht, h1, hu.1.2⟩, rfl⟩
  have : lsum (fun q : Int × Int => cr (P q.2) (P q.1)) Gi = cr A B := by omega
  exact this
end
end Go.Proofs.YtgpapegpdfonpaaGreatDoor
