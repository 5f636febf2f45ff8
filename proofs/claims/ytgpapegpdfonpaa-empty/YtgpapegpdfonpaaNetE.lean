/-
  What a net of points says: triangles, the boundary, all points.
-/
import Derived.Test.YtgpapegpdfonpaaNetD
namespace Go.Proofs.Ytgpapegpdfonpaa
set_option linter.unusedVariables false
set_option linter.unusedSimpArgs false

/-- a net over the points S; -1 stands for one beyond the boundary -/
structure NetOf (P : Int → Pt) (S : List Int) (a b c : Int) (Tr : Int → Int → Int → Prop) : Prop where
  net : ∃ vs : List Int, vs.Nodup ∧ (∀ i, i ∈ vs ↔ i = -1 ∨ i ∈ S) ∧ Net (VV P a b c) vs Tr
  nn : ∀ i ∈ S, 0 ≤ i
  near : ∀ i ∈ S, NearP (P i)
  inj : ∀ i ∈ S, ∀ j ∈ S, P i = P j → i = j
  ma : a ∈ S
  mb : b ∈ S
  mc : c ∈ S
  base : 0 < sd (P a) (P b) (P c)

section
variable {P : Int → Pt} {S : List Int} {a b c : Int} {Tr : Int → Int → Int → Prop}

theorem NetOf.start (ha : 0 ≤ a) (hb : 0 ≤ b) (hc : 0 ≤ c) (hs : 0 < sd (P a) (P b) (P c)) (na : NearP (P a)) (nb : NearP (P b)) (nc : NearP (P c)) :
    NetOf P [a, b, c] a b c (firstTr a b c) := by
  have hab : a ≠ b := by intro e; subst e; unfold sd at hs; grind
  have hac : a ≠ c := by intro e; subst e; unfold sd at hs; grind
  have hbc : b ≠ c := by intro e; subst e; unfold sd at hs; grind
  refine ⟨⟨[-1, a, b, c], ?_, by intro i; simp, first_net ha hb hc hs na nb nc⟩, ?_, ?_, ?_, by simp, by simp, by simp, hs⟩
  · simp [hab, hac, hbc]; omega
  · intro i hi; simp at hi; omega
  · intro i hi; simp at hi; rcases hi with rfl | rfl | rfl <;> assumption
  · intro i hi j hj e
    simp at hi hj
    have z1 : ∀ u v : Pt, sd u u v = 0 := by intro u v; unfold sd; grind
    have z2 : ∀ u v : Pt, sd u v u = 0 := by intro u v; unfold sd; grind
    have z3 : ∀ u v : Pt, sd u v v = 0 := by intro u v; unfold sd; grind
    rcases hi with rfl | rfl | rfl <;> rcases hj with rfl | rfl | rfl <;> (try rfl) <;> (rw [e] at hs; simp only [z1, z2, z3] at hs; omega)

theorem NetOf.add (N : NetOf P S a b c Tr) {p : Int} (hp : p ∉ S) (h0 : 0 ≤ p) (hn : NearP (P p)) (hd : ∀ i ∈ S, P i ≠ P p) : NetOf P (p :: S) a b c (addTr (VV P a b c) Tr p) := by
  obtain ⟨vs, hnd, hm, net⟩ := N.net
  have hpv : p ∉ vs := by
    rw [hm]; rintro (h | h)
    · omega
    · exact hp h
  have sep : Sep (VV P a b c) (p :: vs) := by
    refine sep_VV (N.near _ N.ma) (N.near _ N.mb) (N.near _ N.mc) ?_ ?_
    · intro i hi
      rcases List.mem_cons.1 hi with rfl | hi
      · exact .inr ⟨h0, hn⟩
      · rcases (hm i).1 hi with h | h
        · exact .inl h
        · exact .inr ⟨N.nn i h, N.near i h⟩
    · intro i hi j hj hi0 hj0 e
      have hi' : i = p ∨ i ∈ S := by
        rcases List.mem_cons.1 hi with h | h
        · exact .inl h
        · rcases (hm i).1 h with h | h
          · omega
          · exact .inr h
      have hj' : j = p ∨ j ∈ S := by
        rcases List.mem_cons.1 hj with h | h
        · exact .inl h
        · rcases (hm j).1 h with h | h
          · omega
          · exact .inr h
      rcases hi' with rfl | hi' <;> rcases hj' with rfl | hj'
      · rfl
      · exact absurd e.symm (hd j hj')
      · exact absurd e (hd i hi')
      · exact N.inj i hi' j hj' e
  refine ⟨⟨p :: vs, List.nodup_cons.2 ⟨hpv, hnd⟩, ?_, net.add hnd hpv sep⟩, ?_, ?_, ?_, by simp [N.ma], by simp [N.mb], by simp [N.mc], N.base⟩
  · intro i
    rw [List.mem_cons, List.mem_cons, hm]
    constructor
    · rintro (h | h | h)
      · exact .inr (.inl h)
      · exact .inl h
      · exact .inr (.inr h)
    · rintro (h | h | h)
      · exact .inr (.inl h)
      · exact .inl h
      · exact .inr (.inr h)
  · intro i hi; rcases List.mem_cons.1 hi with rfl | hi
    · exact h0
    · exact N.nn i hi
  · intro i hi; rcases List.mem_cons.1 hi with rfl | hi
    · exact hn
    · exact N.near i hi
  · intro i hi j hj e
    rcases List.mem_cons.1 hi with k | k <;> rcases List.mem_cons.1 hj with k' | k'
    · rw [k, k']
    · rw [k] at e; exact absurd e.symm (hd j k')
    · rw [k'] at e; exact absurd e (hd i k)
    · exact N.inj i k j k' e

theorem NetOf.rot (N : NetOf P S a b c Tr) {x y z : Int} (h : Tr x y z) : Tr y z x := by obtain ⟨vs, _, _, net⟩ := N.net; exact net.rot h
theorem NetOf.pair (N : NetOf P S a b c Tr) {x y z : Int} (h : Tr x y z) : ∃ w, Tr y x w := by obtain ⟨vs, _, _, net⟩ := N.net; exact net.pair h
theorem NetOf.fn (N : NetOf P S a b c Tr) {x y z w : Int} (h : Tr x y z) (h' : Tr x y w) : z = w := by obtain ⟨vs, _, _, net⟩ := N.net; exact net.fn h h'
theorem NetOf.lab (N : NetOf P S a b c Tr) {x y z : Int} (h : Tr x y z) : x = -1 ∨ x ∈ S := by obtain ⟨vs, _, hm, net⟩ := N.net; exact (hm x).1 (net.mem h)
theorem NetOf.pos (N : NetOf P S a b c Tr) {x y z : Int} (h : Tr x y z) : 0 < d3 (VV P a b c x) (VV P a b c y) (VV P a b c z) := by obtain ⟨vs, _, hm, net⟩ := N.net; exact net.pos h
theorem NetOf.ne12 (N : NetOf P S a b c Tr) {x y z : Int} (h : Tr x y z) : x ≠ y := by intro e; subst e; have := N.pos h; rw [d3_aab] at this; omega
theorem NetOf.mem (N : NetOf P S a b c Tr) {x y z : Int} (h : Tr x y z) (h0 : 0 ≤ x) : x ∈ S := by rcases N.lab h with h | h; omega; exact h
theorem NetOf.vv (N : NetOf P S a b c Tr) {x : Int} (h : x ∈ S) : VV P a b c x = lift (P x) := VV_pos _ _ _ _ (N.nn x h)

theorem NetOf.side (N : NetOf P S a b c Tr) {x y z : Int} (h : Tr x y z) (hx : x ∈ S) (hy : y ∈ S) (hz : z ∈ S) : 0 < sd (P x) (P y) (P z) := by
  have := N.pos h
  rw [N.vv hx, N.vv hy, N.vv hz, d3_lift] at this
  exact this

theorem NetOf.circ (N : NetOf P S a b c Tr) {x y z : Int} (h : Tr x y z) (hx : x ∈ S) (hy : y ∈ S) (hz : z ∈ S) {q : Int} (hq : q ∈ S) : cc (P x) (P y) (P z) (P q) ≤ 0 := by
  obtain ⟨vs, _, hm, net⟩ := N.net
  have := net.out h q ((hm q).2 (.inr hq))
  rw [N.vv hx, N.vv hy, N.vv hz, N.vv hq, kk_lift] at this
  exact this

theorem NetOf.ghost_mem (N : NetOf P S a b c Tr) {x y : Int} (h : Tr x y (-1)) : x ∈ S ∧ y ∈ S := by
  have h1 := N.ne12 (N.rot h)
  have h2 := N.ne12 (N.rot (N.rot h))
  have m1 := N.lab h
  have m2 := N.lab (N.rot h)
  refine ⟨?_, ?_⟩
  · rcases m1 with e | e
    · exact absurd e.symm h2
    · exact e
  · rcases m2 with e | e
    · exact absurd e h1
    · exact e

theorem NetOf.ghost (N : NetOf P S a b c Tr) {x y : Int} (h : Tr x y (-1)) {q : Int} (hq : q ∈ S) : sd (P x) (P y) (P q) ≤ 0 ∧ (sd (P x) (P y) (P q) = 0 → 0 ≤ dt (P x) (P y) (P q)) := by
  obtain ⟨hx, hy⟩ := N.ghost_mem h
  have hpos := N.pos h
  obtain ⟨vs, _, hm, net⟩ := N.net
  have := net.out h q ((hm q).2 (.inr hq))
  rw [N.vv hx, N.vv hy, VV_neg] at hpos
  rw [N.vv hx, N.vv hy, N.vv hq, VV_neg] at this
  have g := ghost_sign (N.near x hx) (N.near y hy) (N.near a N.ma) (N.near b N.mb) (N.near c N.mc) (N.near q hq)
  refine ⟨?_, fun e => ?_⟩
  · rcases Int.lt_or_le 0 (sd (P x) (P y) (P q)) with k | k
    · have := g.1 k; omega
    · exact k
  · have k := g.2.2 e
    rw [k] at this
    exact dnn hpos (by omega)

theorem NetOf.ghost_sum (N : NetOf P S a b c Tr) {x y : Int} (h : Tr x y (-1)) : sd (P x) (P y) (P a) + sd (P x) (P y) (P b) + sd (P x) (P y) (P c) < 0 := by
  obtain ⟨hx, hy⟩ := N.ghost_mem h
  have hpos := N.pos h
  rw [N.vv hx, N.vv hy, VV_neg, d3_apex] at hpos
  omega

/-- across a boundary's edge there is a triangle -/
theorem NetOf.ghost_pair (N : NetOf P S a b c Tr) {x y : Int} (h : Tr x y (-1)) : ∃ z ∈ S, Tr y x z := by
  obtain ⟨z, hz⟩ := N.pair h
  rcases N.lab (N.rot (N.rot hz)) with e | e
  · subst e
    have h1 := N.ghost_sum h
    have h2 := N.ghost_sum hz
    have s : ∀ q, sd (P y) (P x) q = - sd (P x) (P y) q := by intro q; unfold sd; grind
    rw [s, s, s] at h2
    omega
  · exact ⟨z, e, hz⟩

theorem NetOf.used (N : NetOf P S a b c Tr) {v : Int} (hv : v ∈ S) : ∃ y z, Tr v y z := by
  have N' := N
  obtain ⟨vs, _, hm, net⟩ := N.net
  obtain ⟨a0, b0, c0, h0⟩ := net.ne
  obtain ⟨x, y, z, h, h1, h2, h3⟩ := cover net.toShut h0 (VV P a b c v)
  have sep : Sep (VV P a b c) vs := by
    refine sep_VV (N.near _ N.ma) (N.near _ N.mb) (N.near _ N.mc) ?_ ?_
    · intro i hi
      rcases (hm i).1 hi with h | h
      · exact .inl h
      · exact .inr ⟨N.nn i h, N.near i h⟩
    · intro i hi j hj hi0 hj0 e
      have hi' : i ∈ S := by
        rcases (hm i).1 hi with h | h
        · omega
        · exact h
      have hj' : j ∈ S := by
        rcases (hm j).1 hj with h | h
        · omega
        · exact h
      exact N.inj i hi' j hj' e
  have mv : v ∈ vs := (hm v).2 (.inr hv)
  obtain ⟨hw, l, lz, l0, l1⟩ := sep v mv
  by_cases e1 : x = v
  · subst e1; exact ⟨y, z, h⟩
  · by_cases e2 : y = v
    · subst e2; exact ⟨z, x, N'.rot h⟩
    · by_cases e3 : z = v
      · subst e3; exact ⟨x, y, N'.rot (N'.rot h)⟩
      · have := in_below (net.pos h) h2 h3 h1 l0 (l1 x (net.mem h) e1) (l1 y (net.mem (net.rot h)) e2) (l1 z (net.mem (net.rot (net.rot h))) e3) lz hw
        have := net.out h v mv
        omega

def addV (u v w : Vec) : Vec := ⟨u.x + v.x + w.x, u.y + v.y + w.y, u.w + v.w + w.w, 0⟩
theorem d3_addV (p q u v w : Vec) : d3 p q (addV u v w) = d3 p q u + d3 p q v + d3 p q w := by unfold addV d3; grind

/-- of points on the line of x, y: neither pair between the other, and the middle of one within the other -/
theorem same_two {x y p q : Pt} {D α β : Int} (hD : 0 < D) (hα : 0 ≤ α) (hβ : 0 ≤ β) (hxy : x ≠ y) (hpq : p ≠ q) (hp : sd x y p = 0) (hq : sd x y q = 0)
    (h1 : 0 ≤ dt x y p) (h2 : 0 ≤ dt x y q) (h3 : 0 ≤ dt p q x) (h4 : 0 ≤ dt p q y)
    (ex : D * (p.1 + q.1) = α * x.1 + β * y.1) (ey : D * (p.2 + q.2) = α * x.2 + β * y.2) (ew : D * 2 = α + β) : (p = x ∧ q = y) ∨ (p = y ∧ q = x) := by
  -- along the line
  have hL : 0 < (y.1 - x.1) * (y.1 - x.1) + (y.2 - x.2) * (y.2 - x.2) := by
    have s1 := sq_nn (y.1 - x.1)
    have s2 := sq_nn (y.2 - x.2)
    by_cases e1 : y.1 = x.1
    · have e2 : y.2 ≠ x.2 := fun e2 => hxy (Prod.ext e1.symm e2.symm)
      have := sq_pos' (show y.2 - x.2 ≠ 0 by omega); omega
    · have := sq_pos' (show y.1 - x.1 ≠ 0 by omega); omega
  generalize hLe : (y.1 - x.1) * (y.1 - x.1) + (y.2 - x.2) * (y.2 - x.2) = L at hL
  generalize htp : (p.1 - x.1) * (y.1 - x.1) + (p.2 - x.2) * (y.2 - x.2) = tp
  generalize htq : (q.1 - x.1) * (y.1 - x.1) + (q.2 - x.2) * (y.2 - x.2) = tq
  have f1 : dt x y p * L = tp * (tp - L) := by
    have e : dt x y p * L - tp * (tp - L) = sd x y p * sd x y p := by rw [← hLe, ← htp]; unfold dt sd; grind
    rw [hp] at e; omega
  have f2 : dt x y q * L = tq * (tq - L) := by
    have e : dt x y q * L - tq * (tq - L) = sd x y q * sd x y q := by rw [← hLe, ← htq]; unfold dt sd; grind
    rw [hq] at e; omega
  have f3 : dt p q x * L = tp * tq := by
    have e : dt p q x * L - tp * tq = sd x y p * sd x y q := by rw [← hLe, ← htp, ← htq]; unfold dt sd; grind
    rw [hp] at e; omega
  have f4 : dt p q y * L = (L - tp) * (L - tq) := by
    have e : dt p q y * L - (L - tp) * (L - tq) = sd x y p * sd x y q := by rw [← hLe, ← htp, ← htq]; unfold dt sd; grind
    rw [hp] at e; omega
  have g1 : 0 ≤ tp * (tp - L) := by rw [← f1]; exact mnn h1 (Int.le_of_lt hL)
  have g2 : 0 ≤ tq * (tq - L) := by rw [← f2]; exact mnn h2 (Int.le_of_lt hL)
  have g3 : 0 ≤ tp * tq := by rw [← f3]; exact mnn h3 (Int.le_of_lt hL)
  have g4 : 0 ≤ (L - tp) * (L - tq) := by rw [← f4]; exact mnn h4 (Int.le_of_lt hL)
  have mid : D * (tp + tq) = β * L := by
    have e : D * (tp + tq) = (D * (p.1 + q.1) - D * 2 * x.1) * (y.1 - x.1) + (D * (p.2 + q.2) - D * 2 * x.2) * (y.2 - x.2) := by rw [← htp, ← htq]; grind
    rw [e, ex, ey, ew, ← hLe]; grind
  have m0 : 0 ≤ tp + tq := dnn hD (by rw [mid]; exact mnn hβ (Int.le_of_lt hL))
  have m1 : tp + tq ≤ 2 * L := by
    have : 0 ≤ D * (2 * L - (tp + tq)) := by
      have e : D * (2 * L - (tp + tq)) = α * L := by
        have : D * (2 * L - (tp + tq)) = D * 2 * L - D * (tp + tq) := by grind
        rw [this, mid, ew]; grind
      rw [e]; exact mnn hα (Int.le_of_lt hL)
    have := dnn hD this; omega
  -- a point by its place on the line
  have pt : ∀ (u : Pt) (t : Int), sd x y u = 0 → (u.1 - x.1) * (y.1 - x.1) + (u.2 - x.2) * (y.2 - x.2) = t → (t = 0 → u = x) ∧ (t = L → u = y) := by
    intro u t hu ht
    refine ⟨fun h0 => ?_, fun hl => ?_⟩
    · have e1 : L * (u.1 - x.1) = (y.1 - x.1) * t - (y.2 - x.2) * sd x y u := by rw [← hLe, ← ht]; unfold sd; grind
      have e2 : L * (u.2 - x.2) = (y.2 - x.2) * t + (y.1 - x.1) * sd x y u := by rw [← hLe, ← ht]; unfold sd; grind
      rw [h0, hu] at e1 e2
      have := dz hL (by omega : L * (u.1 - x.1) = 0)
      have := dz hL (by omega : L * (u.2 - x.2) = 0)
      exact Prod.ext (by omega) (by omega)
    · have e1 : L * (u.1 - y.1) = (y.1 - x.1) * (t - L) - (y.2 - x.2) * sd x y u := by rw [← hLe, ← ht]; unfold sd; grind
      have e2 : L * (u.2 - y.2) = (y.2 - x.2) * (t - L) + (y.1 - x.1) * sd x y u := by rw [← hLe, ← ht]; unfold sd; grind
      rw [hl, hu, Int.sub_self] at e1 e2
      have := dz hL (by omega : L * (u.1 - y.1) = 0)
      have := dz hL (by omega : L * (u.2 - y.2) = 0)
      exact Prod.ext (by omega) (by omega)
  have outp : tp ≤ 0 ∨ L ≤ tp := by
    rcases Int.lt_or_le 0 tp with k | k
    · have := dnn k g1; omega
    · omega
  have outq : tq ≤ 0 ∨ L ≤ tq := by
    rcases Int.lt_or_le 0 tq with k | k
    · have := dnn k g2; omega
    · omega
  rcases outp with k | k <;> rcases outq with k' | k'
  · exact absurd (((pt p tp hp htp).1 (by omega)).trans ((pt q tq hq htq).1 (by omega)).symm) hpq
  · left
    have e1 : tp = 0 := by
      rcases Int.lt_or_le tp 0 with r | r
      · have := mmp r (show 0 < tq by omega); omega
      · omega
    have e2 : tq = L := by
      rcases Int.lt_or_le L tq with r | r
      · have := mpm (show 0 < L - tp by omega) (show L - tq < 0 by omega); omega
      · omega
    exact ⟨(pt p tp hp htp).1 e1, (pt q tq hq htq).2 e2⟩
  · right
    have e1 : tq = 0 := by
      rcases Int.lt_or_le tq 0 with r | r
      · have := mpm (show 0 < tp by omega) r; omega
      · omega
    have e2 : tp = L := by
      rcases Int.lt_or_le L tp with r | r
      · have := mmp (show L - tp < 0 by omega) (show 0 < L - tq by omega); omega
      · omega
    exact ⟨(pt p tp hp htp).2 e2, (pt q tq hq htq).1 e1⟩
  · exact absurd (((pt p tp hp htp).2 (by omega)).trans ((pt q tq hq htq).2 (by omega)).symm) hpq

/-- points on both sides of a line, not all on it -/
theorem sum_pos {u v x y z : Pt} (huv : u ≠ v) (hb : 0 < sd x y z) (hx : 0 ≤ sd u v x) (hy : 0 ≤ sd u v y) (hz : 0 ≤ sd u v z) : 0 < sd u v x + sd u v y + sd u v z := by
  rcases Int.lt_or_le 0 (sd u v x + sd u v y + sd u v z) with k | k
  · exact k
  · have e1 : sd u v x = 0 := by omega
    have e2 : sd u v y = 0 := by omega
    have e3 : sd u v z = 0 := by omega
    have hL : 0 < (v.1 - u.1) * (v.1 - u.1) + (v.2 - u.2) * (v.2 - u.2) := by
      have s1 := sq_nn (v.1 - u.1)
      have s2 := sq_nn (v.2 - u.2)
      by_cases e1 : v.1 = u.1
      · have e2 : v.2 ≠ u.2 := fun e2 => huv (Prod.ext e1.symm e2.symm)
        have := sq_pos' (show v.2 - u.2 ≠ 0 by omega); omega
      · have := sq_pos' (show v.1 - u.1 ≠ 0 by omega); omega
    have : ((v.1 - u.1) * (v.1 - u.1) + (v.2 - u.2) * (v.2 - u.2)) * sd x y z =
        ((y.1 - x.1) * (v.1 - u.1) + (y.2 - x.2) * (v.2 - u.2)) * (sd u v z - sd u v x) - ((z.1 - x.1) * (v.1 - u.1) + (z.2 - x.2) * (v.2 - u.2)) * (sd u v y - sd u v x) := by
      unfold sd; grind
    rw [e1, e2, e3, Int.sub_self, Int.mul_zero, Int.mul_zero] at this
    have := mpp hL hb
    omega

/-- neighbours on the boundary -/
def Bnd (P : Int → Pt) (S : List Int) (x y : Int) : Prop := x ∈ S ∧ y ∈ S ∧ x ≠ y ∧ ∀ q ∈ S, 0 ≤ sd (P x) (P y) (P q) ∧ (sd (P x) (P y) (P q) = 0 → 0 ≤ dt (P x) (P y) (P q))

theorem NetOf.bnd_of (N : NetOf P S a b c Tr) {x y : Int} (h : Tr y x (-1)) : Bnd P S x y := by
  obtain ⟨hy, hx⟩ := N.ghost_mem h
  refine ⟨hx, hy, (N.ne12 h).symm, fun q hq => ?_⟩
  have := N.ghost h hq
  have s : sd (P x) (P y) (P q) = - sd (P y) (P x) (P q) := by unfold sd; grind
  have s2 : dt (P x) (P y) (P q) = dt (P y) (P x) (P q) := dt_comm _ _ _
  rw [s, s2]
  exact ⟨by omega, fun e => this.2 (by omega)⟩

theorem NetOf.of_bnd (N : NetOf P S a b c Tr) {u v : Int} (h : Bnd P S u v) : Tr v u (-1) := by
  obtain ⟨hu, hv, hne, hall⟩ := h
  have hPne : P u ≠ P v := fun e => hne (N.inj u hu v hv e)
  have hsum : 0 < sd (P u) (P v) (P a) + sd (P u) (P v) (P b) + sd (P u) (P v) (P c) := sum_pos hPne N.base (hall a N.ma).1 (hall b N.mb).1 (hall c N.mc).1
  have hψ : d3 (lift (P u)) (lift (P v)) (apex (P a) (P b) (P c)) < 0 := by rw [d3_apex]; omega
  have key : ∀ {x y : Int}, Tr x y (-1) → 0 ≤ d3 (VV P a b c x) (VV P a b c y) (addV (lift (P u)) (lift (P v)) (apex (P a) (P b) (P c))) → 0 ≤ d3 (VV P a b c y) (VV P a b c (-1)) (addV (lift (P u)) (lift (P v)) (apex (P a) (P b) (P c))) → 0 ≤ d3 (VV P a b c (-1)) (VV P a b c x) (addV (lift (P u)) (lift (P v)) (apex (P a) (P b) (P c))) → Tr v u (-1) := by
    intro x y h h1 h2 h3
    obtain ⟨hx, hy⟩ := N.ghost_mem h
    have hD := N.pos h
    rw [N.vv hx, N.vv hy, VV_neg] at hD
    rw [N.vv hx, N.vv hy] at h1
    rw [N.vv hy, VV_neg] at h2
    rw [N.vv hx, VV_neg] at h3
    generalize hq : addV (lift (P u)) (lift (P v)) (apex (P a) (P b) (P c)) = q at *
    generalize hO : apex (P a) (P b) (P c) = O at *
    have cr := d3_cr (lift (P x)) (lift (P y)) O q (lift (P u)) (lift (P v))
    have r1 : ∀ w, d3 w (lift (P u)) (lift (P v)) = d3 (lift (P u)) (lift (P v)) w := fun w => (d3_rot _ _ _).symm
    rw [r1, r1, r1, r1] at cr
    have qO : d3 (lift (P u)) (lift (P v)) q = d3 (lift (P u)) (lift (P v)) O := by rw [← hq, d3_addV, d3_aba, d3_abb]; omega
    have c3 : d3 (lift (P x)) (lift (P y)) q = sd (P x) (P y) (P u) + sd (P x) (P y) (P v) + d3 (lift (P x)) (lift (P y)) O := by rw [← hq, d3_addV, d3_lift, d3_lift]
    rw [qO, c3, d3_lift, d3_lift] at cr
    have gu := N.ghost h hu
    have gv := N.ghost h hv
    have ax := hall x hx
    have ay := hall y hy
    have t1 := mnn h2 ax.1
    have t2 := mnn h3 ay.1
    generalize hΔ : d3 (lift (P x)) (lift (P y)) O = D at *
    generalize hΨ : d3 (lift (P u)) (lift (P v)) O = ψ at *
    have e0 : (sd (P x) (P y) (P u) + sd (P x) (P y) (P v)) * ψ = - (d3 (lift (P y)) O q * sd (P u) (P v) (P x)) - d3 O (lift (P x)) q * sd (P u) (P v) (P y) := by grind
    have zu : sd (P x) (P y) (P u) = 0 ∧ sd (P x) (P y) (P v) = 0 := by
      rcases Int.lt_or_le (sd (P x) (P y) (P u) + sd (P x) (P y) (P v)) 0 with k | k
      · have := mmm k hψ; omega
      · omega
    have hPxy : P x ≠ P y := fun e => N.ne12 h (N.inj x hx y hy e)
    have ex := cr_x (lift (P x)) (lift (P y)) O q
    have ey := cr_y (lift (P x)) (lift (P y)) O q
    have ew := cr_w (lift (P x)) (lift (P y)) O q
    rw [c3, zu.1, zu.2, hΔ] at ex ey ew
    have := same_two hD h2 h3 hPxy hPne zu.1 zu.2 (gu.2 zu.1) (gv.2 zu.2) (by
        rcases Int.lt_or_le 0 (sd (P u) (P v) (P x)) with k | k
        · exfalso
          have : ((P v).1 - (P u).1) * 0 = 0 := by omega
          have e : ((P y).1 - (P x).1) * sd (P u) (P v) (P x) = ((P u).1 - (P x).1) * sd (P x) (P y) (P v) - ((P v).1 - (P x).1) * sd (P x) (P y) (P u) := by unfold sd; grind
          have e' : ((P y).2 - (P x).2) * sd (P u) (P v) (P x) = ((P u).2 - (P x).2) * sd (P x) (P y) (P v) - ((P v).2 - (P x).2) * sd (P x) (P y) (P u) := by unfold sd; grind
          rw [zu.1, zu.2, Int.mul_comm] at e e'
          have z1 := dz k (by omega : sd (P u) (P v) (P x) * ((P y).1 - (P x).1) = 0)
          have z2 := dz k (by omega : sd (P u) (P v) (P x) * ((P y).2 - (P x).2) = 0)
          exact hPxy (Prod.ext (by omega) (by omega))
        · exact ax.2 (by have := ax.1; omega)) (by
        rcases Int.lt_or_le 0 (sd (P u) (P v) (P y)) with k | k
        · exfalso
          have e : ((P y).1 - (P x).1) * sd (P u) (P v) (P y) = ((P u).1 - (P y).1) * sd (P x) (P y) (P v) - ((P v).1 - (P y).1) * sd (P x) (P y) (P u) := by unfold sd; grind
          have e' : ((P y).2 - (P x).2) * sd (P u) (P v) (P y) = ((P u).2 - (P y).2) * sd (P x) (P y) (P v) - ((P v).2 - (P y).2) * sd (P x) (P y) (P u) := by unfold sd; grind
          rw [zu.1, zu.2, Int.mul_comm] at e e'
          have z1 := dz k (by omega : sd (P u) (P v) (P y) * ((P y).1 - (P x).1) = 0)
          have z2 := dz k (by omega : sd (P u) (P v) (P y) * ((P y).2 - (P x).2) = 0)
          exact hPxy (Prod.ext (by omega) (by omega))
        · exact ay.2 (by have := ay.1; omega))
      (by have : q.x = (P u).1 + (P v).1 + O.x := by rw [← hq]; rfl
          rw [this] at ex
          have lx : (lift (P x)).x = (P x).1 := rfl
          have ly : (lift (P y)).x = (P y).1 := rfl
          rw [lx, ly] at ex
          grind)
      (by have : q.y = (P u).2 + (P v).2 + O.y := by rw [← hq]; rfl
          rw [this] at ey
          have lx : (lift (P x)).y = (P x).2 := rfl
          have ly : (lift (P y)).y = (P y).2 := rfl
          rw [lx, ly] at ey
          grind)
      (by have : q.w = 1 + 1 + O.w := by rw [← hq]; rfl
          rw [this] at ew
          have lx : (lift (P x)).w = 1 := rfl
          have ly : (lift (P y)).w = 1 := rfl
          rw [lx, ly] at ew
          grind)
    rcases this with ⟨e1, e2⟩ | ⟨e1, e2⟩
    · rw [e1, e2, hΔ] at hΨ
      omega
    · have i1 := N.inj u hu y hy e1
      have i2 := N.inj v hv x hx e2
      rw [i1, i2]; exact h
  obtain ⟨vs, _, hm, net⟩ := N.net
  obtain ⟨a0, b0, c0, h0⟩ := net.ne
  obtain ⟨x, y, z, h, h1, h2, h3⟩ := cover net.toShut h0 (addV (lift (P u)) (lift (P v)) (apex (P a) (P b) (P c)))
  by_cases ez : z = -1
  · subst ez; exact key h h1 h2 h3
  · by_cases ex : x = -1
    · subst ex; exact key (N.rot h) h2 h3 h1
    · by_cases ey : y = -1
      · subst ey; exact key (N.rot (N.rot h)) h3 h1 h2
      · exfalso
        have hx : x ∈ S := (N.lab h).resolve_left ex
        have hy : y ∈ S := (N.lab (N.rot h)).resolve_left ey
        have hz : z ∈ S := (N.lab (N.rot (N.rot h))).resolve_left ez
        have hD := N.pos h
        have cr := d3_cr (VV P a b c x) (VV P a b c y) (VV P a b c z) (addV (lift (P u)) (lift (P v)) (apex (P a) (P b) (P c))) (lift (P u)) (lift (P v))
        have r1 : ∀ w, d3 w (lift (P u)) (lift (P v)) = d3 (lift (P u)) (lift (P v)) w := fun w => (d3_rot _ _ _).symm
        rw [r1, r1, r1, r1, d3_addV, d3_aba, d3_abb] at cr
        rw [N.vv hx, N.vv hy, N.vv hz] at *
        rw [d3_lift (P u) (P v), d3_lift (P u) (P v), d3_lift (P u) (P v)] at cr
        have t1 := mnn h2 (hall x hx).1
        have t2 := mnn h3 (hall y hy).1
        have t3 := mnn h1 (hall z hz).1
        have t4 := mpm hD hψ
        simp only [Int.zero_add, Int.add_zero] at cr
        omega
end
end Go.Proofs.Ytgpapegpdfonpaa
