/-
  The boundary of a net and the corners around its points.
-/
import Derived.Test.YtgpapegpdfonpaaNetG
namespace Go.Proofs.Ytgpapegpdfonpaa
set_option linter.unusedVariables false
set_option linter.unusedSimpArgs false

/-- along a line from A to B -/
def tau (A B q : Pt) : Int := (q.1 - A.1) * (B.1 - A.1) + (q.2 - A.2) * (B.2 - A.2)
def len2 (A B : Pt) : Int := (B.1 - A.1) * (B.1 - A.1) + (B.2 - A.2) * (B.2 - A.2)
theorem len2_pos {A B : Pt} (h : A ≠ B) : 0 < len2 A B := by
  unfold len2
  have s1 := sq_nn (B.1 - A.1)
  have s2 := sq_nn (B.2 - A.2)
  by_cases e1 : B.1 = A.1
  · have e2 : B.2 ≠ A.2 := fun e2 => h (Prod.ext e1.symm e2.symm)
    have := sq_pos' (show B.2 - A.2 ≠ 0 by omega); omega
  · have := sq_pos' (show B.1 - A.1 ≠ 0 by omega); omega
theorem tau_A (A B : Pt) : tau A B A = 0 := by unfold tau; grind
theorem tau_B (A B : Pt) : tau A B B = len2 A B := rfl
theorem sd_A (A B : Pt) : sd A B A = 0 := by unfold sd; grind
theorem sd_B (A B : Pt) : sd A B B = 0 := by unfold sd; grind
theorem sd_line (A B u v q : Pt) : len2 A B * sd u v q = (tau A B v - tau A B u) * (sd A B q - sd A B u) - (sd A B v - sd A B u) * (tau A B q - tau A B u) := by
  unfold len2 sd tau; grind
theorem dt_line (A B u v q : Pt) : len2 A B * dt u v q = (tau A B q - tau A B u) * (tau A B q - tau A B v) + (sd A B q - sd A B u) * (sd A B q - sd A B v) := by
  unfold len2 sd tau dt; grind
theorem tau_inj {A B u v : Pt} (h : A ≠ B) (hu : sd A B u = 0) (hv : sd A B v = 0) (e : tau A B u = tau A B v) : u = v := by
  have hL := len2_pos h
  have e1 : len2 A B * (u.1 - v.1) = (B.1 - A.1) * (tau A B u - tau A B v) - (B.2 - A.2) * (sd A B u - sd A B v) := by unfold len2 tau sd; grind
  have e2 : len2 A B * (u.2 - v.2) = (B.2 - A.2) * (tau A B u - tau A B v) + (B.1 - A.1) * (sd A B u - sd A B v) := by unfold len2 tau sd; grind
  rw [e, hu, hv, Int.sub_self, Int.sub_self, Int.mul_zero, Int.mul_zero] at e1 e2
  have := dz hL (by omega : len2 A B * (u.1 - v.1) = 0)
  have := dz hL (by omega : len2 A B * (u.2 - v.2) = 0)
  exact Prod.ext (by omega) (by omega)

structure Poly (P : Int → Pt) (S : List Int) (h : Nat → Pt) (m : Nat) : Prop where
  three : 3 ≤ m
  mem : ∀ i, i < m → ∃ u ∈ S, P u = h i
  edge : ∀ i, i < m → ∀ q ∈ S, 0 ≤ sd (h i) (h ((i + 1) % m)) (P q) ∧ (sd (h i) (h ((i + 1) % m)) (P q) = 0 → dt (h i) (h ((i + 1) % m)) (P q) ≤ 0)
  turn : ∀ i, i < m → 0 < sd (h i) (h ((i + 1) % m)) (h ((i + 2) % m))
  inj : ∀ i j, i < m → j < m → h i = h j → i = j

section
variable {P : Int → Pt} {S : List Int} {a b c : Int} {Tr : Int → Int → Int → Prop} {h : Nat → Pt} {m : Nat}

theorem prev_ex {i m : Nat} (hm : 3 ≤ m) (hi : i < m) : ∃ k, k < m ∧ (k + 1) % m = i ∧ (k + 2) % m = (i + 1) % m := by
  by_cases h0 : i = 0
  · subst h0
    refine ⟨m - 1, by omega, ?_, ?_⟩
    · rw [show m - 1 + 1 = m by omega, Nat.mod_self]
    · rw [show m - 1 + 2 = 1 + m by omega, Nat.add_mod_right]
  · refine ⟨i - 1, by omega, ?_, ?_⟩
    · rw [show i - 1 + 1 = i by omega, Nat.mod_eq_of_lt hi]
    · rw [show i - 1 + 2 = i + 1 by omega]

theorem Poly.ne (Y : Poly P S h m) {i : Nat} (hi : i < m) : h i ≠ h ((i + 1) % m) := by
  intro e
  have := Y.turn i hi
  rw [← e] at this
  have z : sd (h i) (h i) (h ((i + 2) % m)) = 0 := by unfold sd; grind
  omega

/-- each edge of the boundary lies along one edge of the corners -/
theorem NetOf.on_edge (N : NetOf P S a b c Tr) (Y : Poly P S h m) {x y : Int} (ht : Tr x y (-1)) : ∃ i, i < m ∧ sd (h i) (h ((i + 1) % m)) (P x) = 0 ∧ sd (h i) (h ((i + 1) % m)) (P y) = 0 := by
  obtain ⟨hy, hx, hne, hall⟩ := N.bnd_of ht
  have hPne : P y ≠ P x := fun e => hne (N.inj y hy x hx e)
  have hc : ∀ i, i < m → 0 ≤ sd (P y) (P x) (h i) := by
    intro i hi
    obtain ⟨u, hu, e⟩ := Y.mem i hi
    rw [← e]; exact (hall u hu).1
  obtain ⟨i, hi, _, hmin⟩ := list_max (fun _ : Nat => True) (fun s t => sd (P y) (P x) (h t) ≤ sd (P y) (P x) (h s)) (fun s t _ _ => Int.le_total _ _) (fun s t r _ _ _ h1 h2 => Int.le_trans h2 h1) (List.range m) ⟨0, List.mem_range.2 (by have := Y.three; omega), trivial⟩
  have hi := List.mem_range.1 hi
  obtain ⟨k, hk, e1, e2⟩ := prev_ex Y.three hi
  have hD := Y.turn k hk
  rw [e1, e2] at hD
  have hk1 : (i + 1) % m < m := Nat.mod_lt _ (by omega)
  have c1 := hmin k (List.mem_range.2 hk) trivial
  have c2 := hmin _ (List.mem_range.2 hk1) trivial
  have n0 := hc i hi
  have n1 := hc k hk
  have n2 := hc _ hk1
  -- of a point z on the line of y and x
  have key : ∀ u ∈ S, sd (P y) (P x) (P u) = 0 → sd (P y) (P x) (h i) = 0 ∧ sd (h k) (h i) (P u) * sd (P y) (P x) (h ((i + 1) % m)) = 0 ∧ sd (h i) (h ((i + 1) % m)) (P u) * sd (P y) (P x) (h k) = 0 := by
    intro u hu hz
    have s1 : 0 ≤ sd (h k) (h i) (P u) := by have := (Y.edge k hk u hu).1; rw [e1] at this; exact this
    have s2 : 0 ≤ sd (h i) (h ((i + 1) % m)) (P u) := (Y.edge i hi u hu).1
    generalize h ((i + 1) % m) = B at *
    generalize h i = O at *
    generalize h k = A at *
    have e : sd A O B * (sd (P y) (P x) (P u) - sd (P y) (P x) O) = sd A O (P u) * (sd (P y) (P x) B - sd (P y) (P x) O) + sd O B (P u) * (sd (P y) (P x) A - sd (P y) (P x) O) := by
      unfold sd; grind
    rw [hz] at e
    have t1 := mnn s1 (show 0 ≤ sd (P y) (P x) B - sd (P y) (P x) O by omega)
    have t2 := mnn s2 (show 0 ≤ sd (P y) (P x) A - sd (P y) (P x) O by omega)
    have t3 : sd A O B * (0 - sd (P y) (P x) O) = -(sd A O B * sd (P y) (P x) O) := by grind
    have t4 := mnn (Int.le_of_lt hD) n0
    have z0 : sd (P y) (P x) O = 0 := dz hD (by omega)
    rw [z0, Int.sub_zero, Int.mul_zero] at e
    rw [z0, Int.sub_zero] at t1 t2
    rw [Int.sub_zero, Int.sub_zero] at e
    exact ⟨z0, by omega, by omega⟩
  have zx : sd (P y) (P x) (P x) = 0 := sd_B _ _
  have zy : sd (P y) (P x) (P y) = 0 := sd_A _ _
  obtain ⟨k0, kx1, kx2⟩ := key x hx zx
  obtain ⟨_, ky1, ky2⟩ := key y hy zy
  -- both ends of one edge lie on the line
  have fin : ∀ A B : Pt, sd (P y) (P x) A = 0 → sd (P y) (P x) B = 0 → sd A B (P x) = 0 ∧ sd A B (P y) = 0 := by
    intro A B hA hB
    have hL := len2_pos hPne
    have f1 := sd_line (P y) (P x) A B (P x)
    have f2 := sd_line (P y) (P x) A B (P y)
    rw [hA, hB, sd_B] at f1
    rw [hA, hB, sd_A] at f2
    simp only [Int.sub_self, Int.mul_zero, Int.zero_mul] at f1 f2
    exact ⟨dz hL f1, dz hL f2⟩
  by_cases zB : sd (P y) (P x) (h ((i + 1) % m)) = 0
  · exact ⟨i, hi, fin _ _ k0 zB⟩
  · by_cases zA : sd (P y) (P x) (h k) = 0
    · refine ⟨k, hk, ?_⟩
      rw [e1]; exact fin _ _ zA k0
    · exfalso
      have a1 := dz (show 0 < sd (P y) (P x) (h ((i + 1) % m)) by omega) (by rw [Int.mul_comm]; exact kx1)
      have a2 := dz (show 0 < sd (P y) (P x) (h k) by omega) (by rw [Int.mul_comm]; exact kx2)
      have b1 := dz (show 0 < sd (P y) (P x) (h ((i + 1) % m)) by omega) (by rw [Int.mul_comm]; exact ky1)
      have b2 := dz (show 0 < sd (P y) (P x) (h k) by omega) (by rw [Int.mul_comm]; exact ky2)
      have z : ∀ u : Pt, sd (h k) (h i) u = 0 → sd (h i) (h ((i + 1) % m)) u = 0 → u = h i := by
        intro u h1 h2
        generalize h ((i + 1) % m) = B at *
        generalize h i = O at *
        generalize h k = A at *
        have f1 : sd A O B * (u.1 - O.1) = sd A O u * (B.1 - O.1) + sd O B u * (A.1 - O.1) := by unfold sd; grind
        have f2 : sd A O B * (u.2 - O.2) = sd A O u * (B.2 - O.2) + sd O B u * (A.2 - O.2) := by unfold sd; grind
        rw [h1, h2, Int.zero_mul, Int.zero_mul] at f1 f2
        have := dz hD (by omega : sd A O B * (u.1 - O.1) = 0)
        have := dz hD (by omega : sd A O B * (u.2 - O.2) = 0)
        exact Prod.ext (by omega) (by omega)
      exact hPne ((z _ b1 b2).trans (z _ a1 a2).symm)

theorem Poly.tau_range (Y : Poly P S h m) {i : Nat} (hi : i < m) {u : Int} (hu : u ∈ S) (h0 : sd (h i) (h ((i + 1) % m)) (P u) = 0) : 0 ≤ tau (h i) (h ((i + 1) % m)) (P u) ∧ tau (h i) (h ((i + 1) % m)) (P u) ≤ len2 (h i) (h ((i + 1) % m)) := by
  have hd := (Y.edge i hi u hu).2 h0
  have hL := len2_pos (Y.ne hi)
  have e := dt_line (h i) (h ((i + 1) % m)) (h i) (h ((i + 1) % m)) (P u)
  rw [h0, sd_A, sd_B, tau_A, tau_B] at e
  generalize tau (h i) (h ((i + 1) % m)) (P u) = t at *
  generalize len2 (h i) (h ((i + 1) % m)) = L at *
  have := mnq (Int.le_of_lt hL) hd
  simp only [Int.sub_zero, Int.sub_self, Int.mul_zero, Int.zero_mul, Int.add_zero] at e
  have k : t * (t - L) ≤ 0 := by omega
  constructor
  · rcases Int.lt_or_le t 0 with r | r
    · have := mmm r (show t - L < 0 by omega); omega
    · exact r
  · rcases Int.lt_or_le L t with r | r
    · have := mpp (show 0 < t by omega) (show 0 < t - L by omega); omega
    · exact r

/-- two points on the line of an edge, with none between: neighbours -/
theorem Poly.bnd (Y : Poly P S h m) {i : Nat} (hi : i < m) {u v : Int} (hu : u ∈ S) (hv : v ∈ S) (hu0 : sd (h i) (h ((i + 1) % m)) (P u) = 0) (hv0 : sd (h i) (h ((i + 1) % m)) (P v) = 0)
    (hlt : tau (h i) (h ((i + 1) % m)) (P u) < tau (h i) (h ((i + 1) % m)) (P v))
    (hno : ∀ q ∈ S, sd (h i) (h ((i + 1) % m)) (P q) = 0 → tau (h i) (h ((i + 1) % m)) (P q) ≤ tau (h i) (h ((i + 1) % m)) (P u) ∨ tau (h i) (h ((i + 1) % m)) (P v) ≤ tau (h i) (h ((i + 1) % m)) (P q)) : Bnd P S u v := by
  have hL := len2_pos (Y.ne hi)
  refine ⟨hu, hv, by intro e; subst e; omega, fun q hq => ?_⟩
  have hs := (Y.edge i hi q hq).1
  have hn := hno q hq
  have f := sd_line (h i) (h ((i + 1) % m)) (P u) (P v) (P q)
  have g := dt_line (h i) (h ((i + 1) % m)) (P u) (P v) (P q)
  rw [hu0, hv0] at f g
  generalize sd (h i) (h ((i + 1) % m)) (P q) = s at *
  generalize tau (h i) (h ((i + 1) % m)) (P u) = tu at *
  generalize tau (h i) (h ((i + 1) % m)) (P v) = tv at *
  generalize tau (h i) (h ((i + 1) % m)) (P q) = tq at *
  generalize len2 (h i) (h ((i + 1) % m)) = L at *
  simp only [Int.sub_zero, Int.sub_self, Int.zero_mul] at f g
  refine ⟨dnn hL ?_, fun e => ?_⟩
  · rw [f]; exact mnn (by omega) hs
  · rw [e, Int.mul_zero] at f
    have hs0 : s = 0 := dz (show 0 < tv - tu by omega) f.symm
    rw [hs0, Int.mul_zero, Int.add_zero] at g
    refine dnn hL ?_
    rw [g]
    rcases hn hs0 with k | k
    · exact mqq (by omega) (by omega)
    · exact mnn (by omega) (by omega)

theorem NetOf.edge_next (N : NetOf P S a b c Tr) (Y : Poly P S h m) {i : Nat} (hi : i < m) {u : Int} (hu : u ∈ S) (hu0 : sd (h i) (h ((i + 1) % m)) (P u) = 0) (hne : P u ≠ h ((i + 1) % m)) :
    ∃ v ∈ S, sd (h i) (h ((i + 1) % m)) (P v) = 0 ∧ Tr v u (-1) := by
  have r := Y.tau_range hi hu hu0
  have hlt : tau (h i) (h ((i + 1) % m)) (P u) < len2 (h i) (h ((i + 1) % m)) := by
    rcases Int.lt_or_le (tau (h i) (h ((i + 1) % m)) (P u)) (len2 (h i) (h ((i + 1) % m))) with k | k
    · exact k
    · exact absurd (tau_inj (Y.ne hi) hu0 (sd_B _ _) (by rw [tau_B]; omega)) hne
  obtain ⟨w, hw, ew⟩ := Y.mem ((i + 1) % m) (Nat.mod_lt _ (by omega))
  obtain ⟨v, hv, ⟨hv0, hvl⟩, hmin⟩ := list_max (fun v => sd (h i) (h ((i + 1) % m)) (P v) = 0 ∧ tau (h i) (h ((i + 1) % m)) (P u) < tau (h i) (h ((i + 1) % m)) (P v))
    (fun x y => tau (h i) (h ((i + 1) % m)) (P y) ≤ tau (h i) (h ((i + 1) % m)) (P x)) (fun x y _ _ => Int.le_total _ _) (fun x y z _ _ _ h1 h2 => Int.le_trans h2 h1) S
    ⟨w, hw, by rw [ew]; exact sd_B _ _, by rw [ew, tau_B]; exact hlt⟩
  refine ⟨v, hv, hv0, N.of_bnd (Y.bnd hi hu hv hu0 hv0 hvl ?_)⟩
  intro q hq hq0
  rcases Int.lt_or_le (tau (h i) (h ((i + 1) % m)) (P u)) (tau (h i) (h ((i + 1) % m)) (P q)) with k | k
  · exact .inr (hmin q hq ⟨hq0, k⟩)
  · exact .inl k

theorem NetOf.edge_prev (N : NetOf P S a b c Tr) (Y : Poly P S h m) {i : Nat} (hi : i < m) {u : Int} (hu : u ∈ S) (hu0 : sd (h i) (h ((i + 1) % m)) (P u) = 0) (hne : P u ≠ h i) :
    ∃ v ∈ S, sd (h i) (h ((i + 1) % m)) (P v) = 0 ∧ Tr u v (-1) := by
  have r := Y.tau_range hi hu hu0
  have hlt : 0 < tau (h i) (h ((i + 1) % m)) (P u) := by
    rcases Int.lt_or_le 0 (tau (h i) (h ((i + 1) % m)) (P u)) with k | k
    · exact k
    · exact absurd (tau_inj (Y.ne hi) hu0 (sd_A _ _) (by rw [tau_A]; omega)) hne
  obtain ⟨w, hw, ew⟩ := Y.mem i hi
  obtain ⟨v, hv, ⟨hv0, hvl⟩, hmax⟩ := list_max (fun v => sd (h i) (h ((i + 1) % m)) (P v) = 0 ∧ tau (h i) (h ((i + 1) % m)) (P v) < tau (h i) (h ((i + 1) % m)) (P u))
    (fun x y => tau (h i) (h ((i + 1) % m)) (P x) ≤ tau (h i) (h ((i + 1) % m)) (P y)) (fun x y _ _ => Int.le_total _ _) (fun x y z _ _ _ h1 h2 => Int.le_trans h1 h2) S
    ⟨w, hw, by rw [ew]; exact sd_A _ _, by rw [ew, tau_A]; exact hlt⟩
  refine ⟨v, hv, hv0, N.of_bnd (Y.bnd hi hv hu hv0 hu0 hvl ?_)⟩
  intro q hq hq0
  rcases Int.lt_or_le (tau (h i) (h ((i + 1) % m)) (P q)) (tau (h i) (h ((i + 1) % m)) (P u)) with k | k
  · exact .inl (hmax q hq ⟨hq0, k⟩)
  · exact .inr k

/-- a boundary's edge goes with the corners -/
theorem NetOf.edge_dir (N : NetOf P S a b c Tr) (Y : Poly P S h m) {i : Nat} (hi : i < m) {x y : Int} (ht : Tr x y (-1)) (hx0 : sd (h i) (h ((i + 1) % m)) (P x) = 0) (hy0 : sd (h i) (h ((i + 1) % m)) (P y) = 0) :
    tau (h i) (h ((i + 1) % m)) (P y) < tau (h i) (h ((i + 1) % m)) (P x) := by
  have hs := N.ghost_sum ht
  have hL := len2_pos (Y.ne hi)
  rcases Int.lt_or_le (tau (h i) (h ((i + 1) % m)) (P y)) (tau (h i) (h ((i + 1) % m)) (P x)) with k | k
  · exact k
  · exfalso
    have key : ∀ q ∈ S, 0 ≤ sd (P x) (P y) (P q) := by
      intro q hq
      have f := sd_line (h i) (h ((i + 1) % m)) (P x) (P y) (P q)
      rw [hx0, hy0] at f
      simp only [Int.sub_zero, Int.sub_self, Int.zero_mul] at f
      refine dnn hL ?_
      rw [f]
      exact mnn (by omega) (Y.edge i hi q hq).1
    have := key a N.ma
    have := key b N.mb
    have := key c N.mc
    omega

/-- the points on the rim of the corners are those on the boundary of the net -/
theorem NetOf.rim_iff (N : NetOf P S a b c Tr) (Y : Poly P S h m) {u : Int} (hu : u ∈ S) : (∃ i, i < m ∧ sd (h i) (h ((i + 1) % m)) (P u) = 0) ↔ ∃ y, Tr u y (-1) := by
  constructor
  · rintro ⟨i, hi, h0⟩
    by_cases hne : P u = h i
    · obtain ⟨v, hv, _, ht⟩ := N.edge_next Y hi hu h0 (by rw [hne]; exact Y.ne hi)
      obtain ⟨d, hd⟩ := N.pair (N.rot ht)
      exact ⟨d, N.rot hd⟩
    · obtain ⟨v, hv, _, ht⟩ := N.edge_prev Y hi hu h0 hne
      exact ⟨v, ht⟩
  · rintro ⟨y, ht⟩
    obtain ⟨i, hi, h0, _⟩ := N.on_edge Y ht
    exact ⟨i, hi, h0⟩

theorem two_same {A B C D : Pt} (hAB : A ≠ B) (hCD : C ≠ D) (hC : sd A B C = 0) (hD : sd A B D = 0) (h1 : dt A B C ≤ 0) (h2 : dt A B D ≤ 0) (h3 : dt C D A ≤ 0) (h4 : dt C D B ≤ 0) : (C = A ∧ D = B) ∨ (C = B ∧ D = A) := by
  have hL := len2_pos hAB
  have f1 := dt_line A B A B C
  have f2 := dt_line A B A B D
  have f3 := dt_line A B C D A
  have f4 := dt_line A B C D B
  rw [sd_A, sd_B, hC, tau_A, tau_B] at f1
  rw [sd_A, sd_B, hD, tau_A, tau_B] at f2
  rw [sd_A, hC, hD, tau_A] at f3
  rw [sd_B, hC, hD, tau_B] at f4
  have j : ∀ {u v : Pt}, sd A B u = 0 → sd A B v = 0 → tau A B u = tau A B v → u = v := fun hu hv e => tau_inj hAB hu hv e
  have jC0 := j hC (sd_A A B)
  have jCL := j hC (sd_B A B)
  have jD0 := j hD (sd_A A B)
  have jDL := j hD (sd_B A B)
  rw [tau_A] at jC0 jD0
  rw [tau_B] at jCL jDL
  generalize tau A B C = s at *
  generalize tau A B D = t at *
  generalize len2 A B = L at *
  simp only [Int.sub_zero, Int.sub_self, Int.mul_zero, Int.zero_mul, Int.add_zero, Int.zero_sub] at f1 f2 f3 f4
  have m1 := mnq (Int.le_of_lt hL) h1
  have m2 := mnq (Int.le_of_lt hL) h2
  have m3 := mnq (Int.le_of_lt hL) h3
  have m4 := mnq (Int.le_of_lt hL) h4
  have rng : ∀ r : Int, r * (r - L) ≤ 0 → 0 ≤ r ∧ r ≤ L := by
    intro r hr
    constructor
    · rcases Int.lt_or_le r 0 with k | k
      · have := mmm k (show r - L < 0 by omega); omega
      · exact k
    · rcases Int.lt_or_le L r with k | k
      · have := mpp (show 0 < r by omega) (show 0 < r - L by omega); omega
      · exact k
  have rs := rng s (by omega)
  have rt := rng t (by omega)
  have z : s = 0 ∨ t = 0 := by
    rcases Int.lt_or_le 0 s with k | k
    · rcases Int.lt_or_le 0 t with k' | k'
      · have := mpp k k'
        have e : -s * -t = s * t := Int.neg_mul_neg _ _
        omega
      · right; omega
    · left; omega
  have y : s = L ∨ t = L := by
    rcases Int.lt_or_le s L with k | k
    · rcases Int.lt_or_le t L with k' | k'
      · have := mpp (show 0 < L - s by omega) (show 0 < L - t by omega); omega
      · right; omega
    · left; omega
  rcases z with z | z
  · rcases y with y | y
    · omega
    · exact .inl ⟨jC0 z, jDL y⟩
  · rcases y with y | y
    · exact .inr ⟨jCL y, jD0 z⟩
    · omega

/-- two edges of the corners that have two points together are one -/
theorem Poly.edge_uniq (Y : Poly P S h m) {i j : Nat} (hi : i < m) (hj : j < m) {x y : Int} (hx : x ∈ S) (hy : y ∈ S) (hne : P x ≠ P y)
    (ix : sd (h i) (h ((i + 1) % m)) (P x) = 0) (iy : sd (h i) (h ((i + 1) % m)) (P y) = 0) (jx : sd (h j) (h ((j + 1) % m)) (P x) = 0) (jy : sd (h j) (h ((j + 1) % m)) (P y) = 0) : i = j := by
  have hi1 : (i + 1) % m < m := Nat.mod_lt _ (by omega)
  have hj1 : (j + 1) % m < m := Nat.mod_lt _ (by omega)
  have col : ∀ A B : Pt, sd A B (P x) = 0 → sd A B (P y) = 0 → A ≠ B → sd (P x) (P y) A = 0 ∧ sd (P x) (P y) B = 0 := by
    intro A B h1 h2 hAB
    have hL := len2_pos hAB
    have f1 := sd_line A B (P x) (P y) A
    have f2 := sd_line A B (P x) (P y) B
    rw [h1, h2, sd_A] at f1
    rw [h1, h2, sd_B] at f2
    simp only [Int.sub_self, Int.mul_zero, Int.zero_mul] at f1 f2
    exact ⟨dz hL f1, dz hL f2⟩
  have ci := col _ _ ix iy (Y.ne hi)
  have cj := col _ _ jx jy (Y.ne hj)
  have on : ∀ A B C : Pt, sd (P x) (P y) A = 0 → sd (P x) (P y) B = 0 → sd (P x) (P y) C = 0 → sd A B C = 0 := by
    intro A B C h1 h2 h3
    have hL := len2_pos hne
    have f := sd_line (P x) (P y) A B C
    rw [h1, h2, h3] at f
    simp only [Int.sub_self, Int.mul_zero, Int.zero_mul] at f
    exact dz hL f
  have at' : ∀ k l, k < m → l < m → sd (h k) (h ((k + 1) % m)) (h l) = 0 → dt (h k) (h ((k + 1) % m)) (h l) ≤ 0 := by
    intro k l hk hl h0
    obtain ⟨u, hu, e⟩ := Y.mem l hl
    rw [← e] at h0 ⊢
    exact (Y.edge k hk u hu).2 h0
  have c1 := on _ _ _ ci.1 ci.2 cj.1
  have c2 := on _ _ _ ci.1 ci.2 cj.2
  have c3 := on _ _ _ cj.1 cj.2 ci.1
  have c4 := on _ _ _ cj.1 cj.2 ci.2
  rcases two_same (Y.ne hi) (Y.ne hj) c1 c2 (at' i j hi hj c1) (at' i _ hi hj1 c2) (at' j i hj hi c3) (at' j _ hj hi1 c4) with ⟨e, _⟩ | ⟨e1, e2⟩
  · exact (Y.inj j i hj hi e).symm
  · exfalso
    have q1 := Y.inj j _ hj hi1 e1
    have q2 := Y.inj _ i hj1 hi e2
    have t := Y.turn i hi
    have : (i + 2) % m = i := by
      rw [show i + 2 = (i + 1) + 1 by omega, Nat.add_mod, ← q1, ← q2]
      conv => rhs; rw [Nat.add_mod, Nat.mod_eq_of_lt hj]
    rw [this] at t
    have z : sd (h i) (h ((i + 1) % m)) (h i) = 0 := sd_A _ _
    omega
end
end Go.Proofs.Ytgpapegpdfonpaa
