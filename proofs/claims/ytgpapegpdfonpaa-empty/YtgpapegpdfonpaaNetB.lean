/-
  Triangles that are shut (each edge is gone along both ways) lie over the whole plane.
-/
import Derived.Test.YtgpapegpdfonpaaNetA
namespace Go.Proofs.Ytgpapegpdfonpaa
set_option linter.unusedVariables false
set_option linter.unusedSimpArgs false

structure Shut (V : Int → Vec) (vs : List Int) (Tr : Int → Int → Int → Prop) : Prop where
  rot : ∀ {a b c}, Tr a b c → Tr b c a
  pair : ∀ {a b c}, Tr a b c → ∃ d, Tr b a d
  mem : ∀ {a b c}, Tr a b c → a ∈ vs
  pos : ∀ {a b c}, Tr a b c → 0 < d3 (V a) (V b) (V c)

theorem list_max {α : Type} (P : α → Prop) (le : α → α → Prop) (tot : ∀ x y, P x → P y → le x y ∨ le y x)
    (tr : ∀ x y z, P x → P y → P z → le x y → le y z → le x z) : ∀ (L : List α), (∃ x ∈ L, P x) → ∃ x ∈ L, P x ∧ ∀ y ∈ L, P y → le y x
  | [], h => by obtain ⟨x, hx, _⟩ := h; simp at hx
  | a :: L, h => by
    by_cases hL : ∃ x ∈ L, P x
    · obtain ⟨x, hx, px, hm⟩ := list_max P le tot tr L hL
      by_cases pa : P a
      · rcases tot a x pa px with k | k
        · refine ⟨x, by simp [hx], px, fun y hy py => ?_⟩
          rcases List.mem_cons.1 hy with rfl | hy
          · exact k
          · exact hm y hy py
        · refine ⟨a, by simp, pa, fun y hy py => ?_⟩
          rcases List.mem_cons.1 hy with rfl | hy
          · rcases tot y y py py with k | k <;> exact k
          · exact tr y x a py px pa (hm y hy py) k
      · refine ⟨x, by simp [hx], px, fun y hy py => ?_⟩
        rcases List.mem_cons.1 hy with rfl | hy
        · exact absurd py pa
        · exact hm y hy py
    · obtain ⟨x, hx, px⟩ := h
      rcases List.mem_cons.1 hx with rfl | hx
      · refine ⟨x, by simp, px, fun y hy py => ?_⟩
        rcases List.mem_cons.1 hy with rfl | hy
        · rcases tot y y py py with k | k <;> exact k
        · exact absurd ⟨y, hy, py⟩ hL
      · exact absurd ⟨x, hx, px⟩ hL

def triples (vs : List Int) : List (Int × Int × Int) := vs.flatMap fun a => vs.flatMap fun b => vs.map fun c => (a, b, c)
theorem mem_triples {vs : List Int} {a b c : Int} : (a, b, c) ∈ triples vs ↔ a ∈ vs ∧ b ∈ vs ∧ c ∈ vs := by
  simp only [triples, List.mem_flatMap, List.mem_map, Prod.mk.injEq]
  constructor
  · rintro ⟨a', ha, b', hb, c', hc, rfl, rfl, rfl⟩
    exact ⟨ha, hb, hc⟩
  · rintro ⟨ha, hb, hc⟩
    exact ⟨a, ha, b, hb, c, hc, rfl, rfl, rfl⟩

theorem big (f : Int → Int) : ∀ vs : List Int, ∃ k : Int, 1 ≤ k ∧ ∀ b ∈ vs, f b < k
  | [] => ⟨1, by omega, by simp⟩
  | b :: vs => by
    obtain ⟨k, h1, h2⟩ := big f vs
    refine ⟨k + (f b).natAbs + 1, by omega, fun c hc => ?_⟩
    rcases List.mem_cons.1 hc with rfl | hc
    · omega
    · have := h2 c hc; omega

theorem quad {c0 c1 c2 k : Int} (hk : 1 ≤ k) (hb : ((c0.natAbs + c1.natAbs : Nat) : Int) < k) (h : c0 + k * c1 + k * k * c2 = 0) : c0 = 0 ∧ c1 = 0 ∧ c2 = 0 := by
  have e0 : c0 = 0 := by
    refine Int.eq_zero_of_dvd_of_natAbs_lt_natAbs (d := k) (n := c0) ⟨-(c1 + k * c2), by grind⟩ (by omega)
  subst e0
  have h' : k * (c1 + k * c2) = 0 := by grind
  have h2 : c1 + k * c2 = 0 := dz (by omega) h'
  have e1 : c1 = 0 := by
    refine Int.eq_zero_of_dvd_of_natAbs_lt_natAbs (d := k) (n := c1) ⟨-c2, by grind⟩ (by omega)
  subst e1
  exact ⟨rfl, rfl, dz (show 0 < k by omega) (by omega)⟩

/-- of three vectors a mix -/
def mix (a b c : Vec) (k : Int) : Vec := ⟨a.x + k * b.x + k * k * c.x, a.y + k * b.y + k * k * c.y, a.w + k * b.w + k * k * c.w, 0⟩
def lin (m n : Int) (r q : Vec) : Vec := ⟨n * r.x + m * q.x, n * r.y + m * q.y, n * r.w + m * q.w, 0⟩
theorem d3_mix (a b c u v : Vec) (k : Int) : d3 (mix a b c k) u v = d3 a u v + k * d3 b u v + k * k * d3 c u v := by unfold mix d3; grind
theorem d3_lin (m n : Int) (r q u v : Vec) : d3 u v (lin m n r q) = n * d3 u v r + m * d3 u v q := by unfold lin d3; grind
def two (u v : Vec) : Vec := ⟨u.y * v.w - u.w * v.y, -(u.x * v.w - u.w * v.x), u.x * v.y - u.y * v.x, 0⟩
theorem dot_two (u v y : Vec) : dot (two u v) y = d3 y u v := by unfold dot two d3; grind
theorem d3_cr (a b c y u v : Vec) : d3 a b c * d3 y u v = d3 b c y * d3 a u v + d3 c a y * d3 b u v + d3 a b y * d3 c u v := by
  have := cf (two u v) a b c y
  rw [dot_two, dot_two, dot_two, dot_two] at this
  rw [this]; simp [two]

theorem frac_trans {a b c A B C : Int} (h1 : a * B ≤ b * A) (h2 : b * C ≤ c * B) (hA : 0 ≤ A) (hB : 0 < B) (hC : 0 ≤ C) : a * C ≤ c * A := by
  have k1 := Int.mul_le_mul_of_nonneg_right h1 hC
  have k2 := Int.mul_le_mul_of_nonneg_right h2 hA
  have : 0 ≤ B * (c * A - a * C) := by grind
  have := dnn hB this
  omega

section
variable (V : Int → Vec) (Tr : Int → Int → Int → Prop) (r q : Vec)
def Ent (a b c : Int) : Prop := Tr a b c ∧ ∃ m n : Int, 0 ≤ m ∧ 0 < n ∧ 0 < n * d3 (V a) (V b) r + m * d3 (V a) (V b) q ∧ 0 < n * d3 (V b) (V c) r + m * d3 (V b) (V c) q ∧ 0 < n * d3 (V c) (V a) r + m * d3 (V c) (V a) q
/-- by which edge it is left -/
def LeavesBy (a b c : Int) : Prop := Ent V Tr r q a b c ∧ d3 (V a) (V b) q < 0 ∧
  (d3 (V b) (V c) q < 0 → d3 (V a) (V b) r * (- d3 (V b) (V c) q) ≤ d3 (V b) (V c) r * (- d3 (V a) (V b) q)) ∧
  (d3 (V c) (V a) q < 0 → d3 (V a) (V b) r * (- d3 (V c) (V a) q) ≤ d3 (V c) (V a) r * (- d3 (V a) (V b) q))
end

theorem Ent.turn {V Tr r q a b c} (hr : ∀ {a b c}, Tr a b c → Tr b c a) (h : Ent V Tr r q a b c) : Ent V Tr r q b c a := by
  obtain ⟨h, m, n, hm, hn, h1, h2, h3⟩ := h
  exact ⟨hr h, m, n, hm, hn, h2, h3, h1⟩

theorem Ent.exit {V Tr r q a b c} (hr : ∀ {a b c}, Tr a b c → Tr b c a) (h : Ent V Tr r q a b c) (hn : d3 (V a) (V b) q < 0 ∨ d3 (V b) (V c) q < 0 ∨ d3 (V c) (V a) q < 0) :
    LeavesBy V Tr r q a b c ∨ LeavesBy V Tr r q b c a ∨ LeavesBy V Tr r q c a b := by
  have h2 := h.turn hr
  have h3 := h2.turn hr
  unfold LeavesBy
  generalize Ent V Tr r q a b c = P1 at *
  generalize Ent V Tr r q b c a = P2 at *
  generalize Ent V Tr r q c a b = P3 at *
  generalize d3 (V a) (V b) q = x at *
  generalize d3 (V b) (V c) q = y at *
  generalize d3 (V c) (V a) q = z at *
  generalize d3 (V a) (V b) r = A at *
  generalize d3 (V b) (V c) r = B at *
  generalize d3 (V c) (V a) r = C at *
  by_cases hx : x < 0 <;> by_cases hy : y < 0 <;> by_cases hz : z < 0
  · rcases Int.le_total (A * -y) (B * -x) with k | k
    · rcases Int.le_total (A * -z) (C * -x) with k' | k'
      · exact .inl ⟨h, hx, fun _ => k, fun _ => k'⟩
      · exact .inr (.inr ⟨h3, hz, fun _ => k', fun _ => frac_trans k' k (by omega) (by omega) (by omega)⟩)
    · rcases Int.le_total (B * -z) (C * -y) with k' | k'
      · exact .inr (.inl ⟨h2, hy, fun _ => k', fun _ => k⟩)
      · exact .inr (.inr ⟨h3, hz, fun _ => frac_trans k' k (by omega) (by omega) (by omega), fun _ => k'⟩)
  · rcases Int.le_total (A * -y) (B * -x) with k | k
    · exact .inl ⟨h, hx, fun _ => k, fun e => absurd e hz⟩
    · exact .inr (.inl ⟨h2, hy, fun e => absurd e hz, fun _ => k⟩)
  · rcases Int.le_total (A * -z) (C * -x) with k' | k'
    · exact .inl ⟨h, hx, fun e => absurd e hy, fun _ => k'⟩
    · exact .inr (.inr ⟨h3, hz, fun _ => k', fun e => absurd e hy⟩)
  · exact .inl ⟨h, hx, fun e => absurd e hy, fun e => absurd e hz⟩
  · rcases Int.le_total (B * -z) (C * -y) with k' | k'
    · exact .inr (.inl ⟨h2, hy, fun _ => k', fun e => absurd e hx⟩)
    · exact .inr (.inr ⟨h3, hz, fun e => absurd e hx, fun _ => k'⟩)
  · exact .inr (.inl ⟨h2, hy, fun e => absurd e hz, fun e => absurd e hx⟩)
  · exact .inr (.inr ⟨h3, hz, fun e => absurd e hx, fun e => absurd e hy⟩)
  · omega

/-- at the place where it is left, the two others still hold -/
theorem exit_ge {A x B y m n : Int} (hm : 0 ≤ m) (hn : 0 < n) (h1 : 0 < n * A + m * x) (h2 : 0 < n * B + m * y) (hx : x < 0) (hy : y < 0 → A * -y ≤ B * -x) : 0 ≤ (-x) * B + A * y := by
  rcases Int.lt_or_le y 0 with h | h
  · have := hy h; grind
  · refine dnn hn ?_
    have k1 : 0 ≤ (-x) * (n * B + m * y) := mnn (by omega) (by omega)
    have k2 : 0 ≤ y * (n * A + m * x) := mnn h (by omega)
    grind

theorem d3_zero_all {a b c : Vec} {q b' : Vec} (hD : 0 < d3 a b c) (h1 : d3 a q b' = 0) (h2 : d3 b q b' = 0) (h3 : d3 c q b' = 0) (y : Vec) : d3 y q b' = 0 := by
  have := d3_cr a b c y q b'
  rw [h1, h2, h3] at this
  exact dz hD (by omega)

theorem cover {V : Int → Vec} {vs : List Int} {Tr : Int → Int → Int → Prop} (S : Shut V vs Tr) {a0 b0 c0 : Int} (h0 : Tr a0 b0 c0) (q : Vec) :
    ∃ a b c, Tr a b c ∧ 0 ≤ d3 (V a) (V b) q ∧ 0 ≤ d3 (V b) (V c) q ∧ 0 ≤ d3 (V c) (V a) q := by
  refine Classical.byContradiction fun hno => ?_
  have hneg : ∀ a b c, Tr a b c → d3 (V a) (V b) q < 0 ∨ d3 (V b) (V c) q < 0 ∨ d3 (V c) (V a) q < 0 := by
    intro a b c h
    refine Classical.byContradiction fun hn => hno ⟨a, b, c, h, ?_, ?_, ?_⟩ <;> omega
  obtain ⟨k, hk1, hk⟩ := big (fun b => (((d3 (V a0) q (V b)).natAbs + (d3 (V b0) q (V b)).natAbs : Nat) : Int)) vs
  have hD0 := S.pos h0
  generalize hr : mix (V a0) (V b0) (V c0) k = r
  have gen : ∀ b ∈ vs, (∃ y, d3 y q (V b) ≠ 0) → d3 r q (V b) ≠ 0 := by
    intro b hb ⟨y, hy⟩ e
    rw [← hr, d3_mix] at e
    obtain ⟨e1, e2, e3⟩ := quad hk1 (hk b hb) e
    exact hy (d3_zero_all hD0 e1 e2 e3 y)
  have hE0 : Ent V Tr r q a0 b0 c0 := by
    refine ⟨h0, 0, 1, by omega, by omega, ?_, ?_, ?_⟩
    · rw [← hr, ← d3_rot, ← d3_rot, d3_mix, d3_aab, d3_aba]
      have : d3 (V c0) (V a0) (V b0) = d3 (V a0) (V b0) (V c0) := (d3_rot _ _ _).symm
      rw [this]
      have := mpp (mpp (show 0 < k by omega) (show 0 < k by omega)) hD0
      omega
    · rw [← hr, ← d3_rot, ← d3_rot, d3_mix, d3_aab, d3_aba]
      omega
    · rw [← hr, ← d3_rot, ← d3_rot, d3_mix, d3_aab, d3_aba]
      rw [d3_rot]
      have := mpp (show 0 < k by omega) hD0
      omega
  have hX : ∃ t ∈ triples vs, LeavesBy V Tr r q t.1 t.2.1 t.2.2 := by
    have m1 := S.mem h0
    have m2 := S.mem (S.rot h0)
    have m3 := S.mem (S.rot (S.rot h0))
    rcases hE0.exit S.rot (hneg _ _ _ h0) with h | h | h
    · exact ⟨(a0, b0, c0), mem_triples.2 ⟨m1, m2, m3⟩, h⟩
    · exact ⟨(b0, c0, a0), mem_triples.2 ⟨m2, m3, m1⟩, h⟩
    · exact ⟨(c0, a0, b0), mem_triples.2 ⟨m3, m1, m2⟩, h⟩
  obtain ⟨⟨a, b, c⟩, _, ⟨hE, hx, hy, hz⟩, hmax⟩ := list_max (fun t : Int × Int × Int => LeavesBy V Tr r q t.1 t.2.1 t.2.2)
    (fun s t => d3 (V s.1) (V s.2.1) r * (- d3 (V t.1) (V t.2.1) q) ≤ d3 (V t.1) (V t.2.1) r * (- d3 (V s.1) (V s.2.1) q))
    (fun x y _ _ => Int.le_total _ _)
    (fun x y z hx hy hz h1 h2 => frac_trans h1 h2 (by have := hx.2.1; omega) (by have := hy.2.1; omega) (by have := hz.2.1; omega)) (triples vs) hX
  dsimp only at hE hx hy hz hmax
  obtain ⟨hT, m, n, hm, hn, g1, g2, g3⟩ := hE
  have hD := S.pos hT
  -- the place where it is left
  generalize hQ : lin (d3 (V a) (V b) r) (- d3 (V a) (V b) q) r q = Q
  have q1 : d3 (V a) (V b) Q = 0 := by rw [← hQ, d3_lin]; grind
  have q2 : 0 ≤ d3 (V b) (V c) Q := by rw [← hQ, d3_lin]; exact exit_ge hm hn g1 g2 hx hy
  have q3 : 0 ≤ d3 (V c) (V a) Q := by rw [← hQ, d3_lin]; exact exit_ge hm hn g1 g3 hx hz
  have qz : d3 r q Q = 0 := by rw [← hQ, d3_lin, d3_aba, d3_abb]; simp
  have gb : d3 r q (V b) ≠ 0 := gen b (S.mem (S.rot hT)) ⟨V a, by rw [d3_swap2]; omega⟩
  have ga : d3 r q (V a) ≠ 0 := gen a (S.mem hT) ⟨V b, by rw [d3_swap2, d3_swap]; omega⟩
  have Qn : ∀ u v, d3 u v Q = (- d3 (V a) (V b) q) * d3 u v r + d3 (V a) (V b) r * d3 u v q := fun u v => by rw [← hQ, d3_lin]
  have nz : ¬ (d3 (V b) (V c) Q = 0 ∧ d3 (V c) (V a) Q = 0) := by
    rintro ⟨z2, z3⟩
    have all : ∀ u v, d3 u v Q = 0 := by
      intro u v
      have := d3_cr (V a) (V b) (V c) Q u v
      rw [z2, z3, q1] at this
      have e := dz hD (by omega : d3 (V a) (V b) (V c) * d3 Q u v = 0)
      rw [d3_rot]; exact e
    have e := all q (V b)
    rw [Qn, d3_aba] at e
    have e' : d3 q (V b) r = 0 := dz (show 0 < - d3 (V a) (V b) q by omega) (by omega)
    rw [d3_rot] at e'
    exact gb e'
  have cr := d3_cr (V a) (V b) (V c) Q r q
  rw [q1] at cr
  have cz : d3 Q r q = 0 := by rw [← d3_rot]; exact qz
  rw [cz] at cr
  have ra : d3 (V a) r q = d3 r q (V a) := (d3_rot _ _ _).symm
  have rb : d3 (V b) r q = d3 r q (V b) := (d3_rot _ _ _).symm
  rw [ra, rb] at cr
  have p2 : 0 < d3 (V b) (V c) Q := by
    rcases Int.lt_or_le 0 (d3 (V b) (V c) Q) with h | h
    · exact h
    · have e2 : d3 (V b) (V c) Q = 0 := by omega
      rw [e2] at cr
      have h3 : d3 (V c) (V a) Q ≠ 0 := fun e => nz ⟨e2, e⟩
      have := dz (show 0 < d3 (V c) (V a) Q by omega) (by omega : d3 (V c) (V a) Q * d3 r q (V b) = 0)
      exact absurd this gb
  have p3 : 0 < d3 (V c) (V a) Q := by
    rcases Int.lt_or_le 0 (d3 (V c) (V a) Q) with h | h
    · exact h
    · have e3 : d3 (V c) (V a) Q = 0 := by omega
      rw [e3] at cr
      have := dz p2 (by omega : d3 (V b) (V c) Q * d3 r q (V a) = 0)
      exact absurd this ga
  obtain ⟨d, hT'⟩ := S.pair hT
  have hD' := S.pos hT'
  have s1 : 0 < d3 (V a) (V d) Q := by
    have := d3_cr (V a) (V b) (V c) Q (V a) (V d)
    rw [q1, d3_aab] at this
    have e : d3 Q (V a) (V d) = d3 (V a) (V d) Q := (d3_rot _ _ _).symm
    rw [e] at this
    refine dpos hD ?_
    have := mpp p3 hD'
    omega
  have s2 : 0 < d3 (V d) (V b) Q := by
    have := d3_cr (V a) (V b) (V c) Q (V d) (V b)
    rw [q1] at this
    have e : d3 Q (V d) (V b) = d3 (V d) (V b) Q := (d3_rot _ _ _).symm
    have e2 : d3 (V b) (V d) (V b) = 0 := d3_aba _ _
    have e3 : d3 (V a) (V d) (V b) = d3 (V b) (V a) (V d) := d3_rot _ _ _
    rw [e, e2, e3] at this
    refine dpos hD ?_
    have := mpp p2 hD'
    omega
  -- a little beyond it
  generalize hN : ((d3 (V a) (V d) q).natAbs : Int) + ((d3 (V d) (V b) q).natAbs : Int) + 1 = N
  have hN1 : 1 ≤ N := by omega
  have hE' : Ent V Tr r q b a d := by
    refine ⟨hT', N * d3 (V a) (V b) r + 1, N * (- d3 (V a) (V b) q), ?_, mpp (by omega) (by omega), ?_, ?_, ?_⟩
    · -- the edge's number is not below nought at r
      have h1 : 0 < d3 (V a) (V b) r := by
        refine dpos hn ?_
        have := mnq hm (Int.le_of_lt hx)
        omega
      have := mpp (show 0 < N by omega) h1
      omega
    · rw [d3_swap (V a) (V b) r, d3_swap (V a) (V b) q]; grind
    · have := Qn (V a) (V d)
      have e : N * -d3 (V a) (V b) q * d3 (V a) (V d) r + (N * d3 (V a) (V b) r + 1) * d3 (V a) (V d) q = N * d3 (V a) (V d) Q + d3 (V a) (V d) q := by rw [this]; grind
      rw [e]
      have := Int.mul_le_mul_of_nonneg_left (show 1 ≤ d3 (V a) (V d) Q by omega) (show 0 ≤ N by omega)
      omega
    · have := Qn (V d) (V b)
      have e : N * -d3 (V a) (V b) q * d3 (V d) (V b) r + (N * d3 (V a) (V b) r + 1) * d3 (V d) (V b) q = N * d3 (V d) (V b) Q + d3 (V d) (V b) q := by rw [this]; grind
      rw [e]
      have := Int.mul_le_mul_of_nonneg_left (show 1 ≤ d3 (V d) (V b) Q by omega) (show 0 ≤ N by omega)
      omega
  have fin : ∀ u v, 0 < N * (- d3 (V a) (V b) q) * d3 (V u) (V v) r + (N * d3 (V a) (V b) r + 1) * d3 (V u) (V v) q → d3 (V u) (V v) q < 0 → d3 (V u) (V v) r * (- d3 (V a) (V b) q) ≤ d3 (V a) (V b) r * (- d3 (V u) (V v) q) → False := by
    intro u v h1 h2 h3
    have := Int.mul_le_mul_of_nonneg_left h3 (show 0 ≤ N by omega)
    grind
  obtain ⟨_, m', n', hm', hn', f1, f2, f3⟩ := id hE'
  have hex := hE'.exit S.rot (hneg _ _ _ hT')
  have mb := S.mem hT'
  have ma := S.mem (S.rot hT')
  have md := S.mem (S.rot (S.rot hT'))
  obtain ⟨_, m2, n2, hm2, hn2, k1, k2, k3⟩ := hE'
  have w1 : 0 < N * (- d3 (V a) (V b) q) * d3 (V b) (V a) r + (N * d3 (V a) (V b) r + 1) * d3 (V b) (V a) q := by
    rw [d3_swap (V a) (V b) r, d3_swap (V a) (V b) q]; grind
  have w2 : 0 < N * (- d3 (V a) (V b) q) * d3 (V a) (V d) r + (N * d3 (V a) (V b) r + 1) * d3 (V a) (V d) q := by
    have := Qn (V a) (V d)
    have e : N * -d3 (V a) (V b) q * d3 (V a) (V d) r + (N * d3 (V a) (V b) r + 1) * d3 (V a) (V d) q = N * d3 (V a) (V d) Q + d3 (V a) (V d) q := by rw [this]; grind
    rw [e]
    have := Int.mul_le_mul_of_nonneg_left (show 1 ≤ d3 (V a) (V d) Q by omega) (show 0 ≤ N by omega)
    omega
  have w3 : 0 < N * (- d3 (V a) (V b) q) * d3 (V d) (V b) r + (N * d3 (V a) (V b) r + 1) * d3 (V d) (V b) q := by
    have := Qn (V d) (V b)
    have e : N * -d3 (V a) (V b) q * d3 (V d) (V b) r + (N * d3 (V a) (V b) r + 1) * d3 (V d) (V b) q = N * d3 (V d) (V b) Q + d3 (V d) (V b) q := by rw [this]; grind
    rw [e]
    have := Int.mul_le_mul_of_nonneg_left (show 1 ≤ d3 (V d) (V b) Q by omega) (show 0 ≤ N by omega)
    omega
  rcases hex with h | h | h
  · exact fin b a w1 h.2.1 (hmax (b, a, d) (mem_triples.2 ⟨mb, ma, md⟩) h)
  · exact fin a d w2 h.2.1 (hmax (a, d, b) (mem_triples.2 ⟨ma, md, mb⟩) h)
  · exact fin d b w3 h.2.1 (hmax (d, b, a) (mem_triples.2 ⟨md, mb, ma⟩) h)
end Go.Proofs.Ytgpapegpdfonpaa
