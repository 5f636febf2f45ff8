/-
  How many triangles a net has: two for each point, but for those on the boundary.
-/
import Derived.Test.YtgpapegpdfonpaaNetE
namespace Go.Proofs.Ytgpapegpdfonpaa
set_option linter.unusedVariables false
set_option linter.unusedSimpArgs false

theorem len_bij {α β : Type} (f : α → β) {L : List α} {M : List β} (hL : L.Nodup) (hM : M.Nodup) (hi : ∀ x ∈ L, ∀ y ∈ L, f x = f y → x = y) (hm : ∀ x ∈ L, f x ∈ M) (hs : ∀ y ∈ M, ∃ x ∈ L, f x = y) : L.length = M.length := by
  have h1 := len_le (L.map f) M (nodup_map_on f L hL hi) (fun y hy => by obtain ⟨x, hx, rfl⟩ := List.mem_map.1 hy; exact hm x hx)
  have h2 := len_le M (L.map f) hM (fun y hy => by obtain ⟨x, hx, e⟩ := hs y hy; exact List.mem_map.2 ⟨x, hx, e⟩)
  simp at h1 h2
  omega

theorem big' {α : Type} (f : α → Int) : ∀ vs : List α, ∃ k : Int, 1 ≤ k ∧ ∀ b ∈ vs, f b < k
  | [] => ⟨1, by omega, by simp⟩
  | b :: vs => by
    obtain ⟨k, h1, h2⟩ := big' f vs
    refine ⟨k + (f b).natAbs + 1, by omega, fun c hc => ?_⟩
    rcases List.mem_cons.1 hc with rfl | hc
    · omega
    · have := h2 c hc; omega

def pairs (S : List Int) : List (Int × Int) := S.flatMap fun a => S.map fun b => (a, b)
theorem mem_pairs {S : List Int} {a b : Int} : (a, b) ∈ pairs S ↔ a ∈ S ∧ b ∈ S := by
  simp only [pairs, List.mem_flatMap, List.mem_map, Prod.mk.injEq]
  constructor
  · rintro ⟨a', ha, b', hb, rfl, rfl⟩
    exact ⟨ha, hb⟩
  · rintro ⟨ha, hb⟩
    exact ⟨a, ha, b, hb, rfl, rfl⟩
theorem nodup_pairs {S : List Int} (h : S.Nodup) : (pairs S).Nodup := by
  unfold pairs List.Nodup
  rw [List.pairwise_flatMap]
  refine ⟨fun a ha => nodup_map_on _ _ h (fun x _ y _ e => by simpa using e), ?_⟩
  refine h.imp (fun hne x hx y hy e => ?_)
  obtain ⟨b, _, rfl⟩ := List.mem_map.1 hx
  obtain ⟨b', _, rfl⟩ := List.mem_map.1 hy
  exact hne (Prod.mk.inj e).1
theorem nodup_triples {S : List Int} (h : S.Nodup) : (triples S).Nodup := by
  have h2 := nodup_pairs h
  unfold triples List.Nodup
  rw [List.pairwise_flatMap]
  refine ⟨fun a ha => ?_, ?_⟩
  · have e : (S.flatMap fun b => S.map fun c => (a, b, c)) = (pairs S).map (fun q => (a, q.1, q.2)) := by
      unfold pairs; rw [List.map_flatMap]; simp only [List.map_map]; rfl
    rw [e]
    exact nodup_map_on _ _ h2 (fun x _ y _ e => by
      have := (Prod.mk.inj (Prod.mk.inj e).2); exact Prod.ext this.1 this.2)
  · refine h.imp (fun hne x hx y hy e => ?_)
    simp only [List.mem_flatMap, List.mem_map] at hx hy
    obtain ⟨b, _, c, _, rfl⟩ := hx
    obtain ⟨b', _, c', _, rfl⟩ := hy
    exact hne (Prod.mk.inj e).1

theorem filter_split {α : Type} (p : α → Bool) : ∀ L : List α, L.length = (L.filter p).length + (L.filter (fun x => ! p x)).length
  | [] => rfl
  | a :: L => by
    have := filter_split p L
    by_cases h : p a
    · simp [h]; omega
    · simp [h]; omega

theorem filter_three {α : Type} (p q r : α → Bool) : ∀ L : List α, (∀ x ∈ L, (p x = true ∧ q x = false ∧ r x = false) ∨ (p x = false ∧ q x = true ∧ r x = false) ∨ (p x = false ∧ q x = false ∧ r x = true)) →
    L.length = (L.filter p).length + (L.filter q).length + (L.filter r).length
  | [], _ => rfl
  | a :: L, h => by
    have ih := filter_three p q r L (fun x hx => h x (by simp [hx]))
    rcases h a (by simp) with ⟨h1, h2, h3⟩ | ⟨h1, h2, h3⟩ | ⟨h1, h2, h3⟩ <;> simp [h1, h2, h3] <;> omega

section
variable {P : Int → Pt} {S : List Int} {a b c : Int} {Tr : Int → Int → Int → Prop}

/-- each direction from a point lies in one of its triangles -/
theorem NetOf.sector (N : NetOf P S a b c Tr) {v : Int} (hv : v ∈ S) (m : Vec) : ∃ y z, Tr v y z ∧ 0 ≤ d3 (VV P a b c v) (VV P a b c y) m ∧ 0 ≤ d3 (VV P a b c z) (VV P a b c v) m := by
  have N' := N
  obtain ⟨vs, _, hm, net⟩ := N.net
  obtain ⟨a0, b0, c0, h0⟩ := net.ne
  obtain ⟨K, hK1, hK⟩ := big' (fun q : Int × Int => ((d3 (VV P a b c q.1) (VV P a b c q.2) m).natAbs : Int)) (pairs vs)
  obtain ⟨x, y, z, h, h1, h2, h3⟩ := cover net.toShut h0 (lin 1 K (VV P a b c v) m)
  rw [d3_lin] at h1 h2 h3
  have mx := net.mem h
  have my := net.mem (net.rot h)
  have mz := net.mem (net.rot (net.rot h))
  have small : ∀ {s t : Int}, s ∈ vs → t ∈ vs → 0 ≤ K * d3 (VV P a b c s) (VV P a b c t) (VV P a b c v) + 1 * d3 (VV P a b c s) (VV P a b c t) m → 0 ≤ d3 (VV P a b c s) (VV P a b c t) (VV P a b c v) := by
    intro s t hs ht h
    have := hK (s, t) (mem_pairs.2 ⟨hs, ht⟩)
    dsimp only at this
    rcases Int.lt_or_le (d3 (VV P a b c s) (VV P a b c t) (VV P a b c v)) 0 with k | k
    · have := Int.mul_le_mul_of_nonneg_left (show d3 (VV P a b c s) (VV P a b c t) (VV P a b c v) ≤ -1 by omega) (show 0 ≤ K by omega)
      omega
    · exact k
  have g1 := small mx my h1
  have g2 := small my mz h2
  have g3 := small mz mx h3
  have sep : Sep (VV P a b c) vs := by
    refine sep_VV (N.near _ N.ma) (N.near _ N.mb) (N.near _ N.mc) ?_ ?_
    · intro i hi
      rcases (hm i).1 hi with h | h
      · exact .inl h
      · exact .inr ⟨N.nn i h, N.near i h⟩
    · intro i hi j hj hi0 hj0 e
      have hi' : i ∈ S := by
        rcases (hm i).1 hi with h | h
        · omega
        · exact h
      have hj' : j ∈ S := by
        rcases (hm j).1 hj with h | h
        · omega
        · exact h
      exact N.inj i hi' j hj' e
  have mv : v ∈ vs := (hm v).2 (.inr hv)
  obtain ⟨hw, l, lz, l0, l1⟩ := sep v mv
  by_cases e1 : x = v
  · subst e1
    rw [d3_aba] at h1
    rw [d3_abb] at h3
    exact ⟨y, z, h, by omega, by omega⟩
  · by_cases e2 : y = v
    · subst e2
      rw [d3_aba] at h2
      rw [d3_abb] at h1
      exact ⟨z, x, N'.rot h, by omega, by omega⟩
    · by_cases e3 : z = v
      · subst e3
        rw [d3_aba] at h3
        rw [d3_abb] at h2
        exact ⟨x, y, N'.rot (N'.rot h), by omega, by omega⟩
      · have := in_below (net.pos h) g2 g3 g1 l0 (l1 x mx e1) (l1 y my e2) (l1 z mz e3) lz hw
        have := net.out h v mv
        omega

theorem back_sum {mx my yx yy zx zy D β γ : Int} (hm : fw mx my) (hD : 0 < D) (hβ : 0 ≤ β) (hγ : 0 ≤ γ) (ex : D * mx = β * yx + γ * zx) (ey : D * my = β * yy + γ * zy)
    (hy : β = 0 ∨ fw (-yx) (-yy)) (hz : γ = 0 ∨ fw (-zx) (-zy)) : False := by
  have key : ∀ {β x y : Int}, 0 ≤ β → (β = 0 ∨ fw (-x) (-y)) → β * x ≤ 0 ∧ (β * x = 0 → β * y ≤ 0) := by
    intro β x y hβ h
    rcases h with rfl | h
    · simp
    · unfold fw at h
      refine ⟨mnq hβ (by omega), fun e => ?_⟩
      rcases Int.lt_or_le 0 β with k | k
      · have := dz k e
        exact mnq hβ (by omega)
      · have : β = 0 := by omega
        subst this; simp
  have ky := key hβ hy
  have kz := key hγ hz
  unfold fw at hm
  rcases hm with hm | ⟨h0, hm⟩
  · have := mpp hD hm; omega
  · subst h0
    rw [Int.mul_zero] at ex
    have := mpp hD hm
    have := ky.2 (by omega)
    have := kz.2 (by omega)
    omega

/-- to the right of v, by X and then Y -/
def RN (P : Int → Pt) (S : List Int) (Tr : Int → Int → Int → Prop) (v w : Int) : Prop := w ∈ S ∧ plt (P v) (P w) ∧ ∃ x, Tr v w x

theorem NetOf.right_ex (N : NetOf P S a b c Tr) {v m : Int} (hv : v ∈ S) (hm : m ∈ S) (hlt : plt (P v) (P m)) : ∃ w, RN P S Tr v w := by
  obtain ⟨y, z, h, h1, h2⟩ := N.sector hv (lift (P m))
  refine Classical.byContradiction fun hno => ?_
  have hD := N.pos h
  have hz' : ∃ x, Tr v z x := N.pair (N.rot (N.rot h))
  have key : ∀ w, (∃ x, Tr v w x) → w ∈ S → fw (-((P w).1 - (P v).1)) (-((P w).2 - (P v).2)) := by
    intro w hw hwS
    have hne : v ≠ w := by obtain ⟨x, hx⟩ := hw; exact N.ne12 hx
    rcases plt_tri (P v) (P w) with k | k | k
    · exact absurd ⟨w, hwS, k, hw⟩ hno
    · exact absurd (N.inj v hv w hwS k) hne
    · have := plt_fw k; unfold fw at *; omega
  have cx := cr_x (VV P a b c v) (VV P a b c y) (VV P a b c z) (lift (P m))
  have cy := cr_y (VV P a b c v) (VV P a b c y) (VV P a b c z) (lift (P m))
  have cw := cr_w (VV P a b c v) (VV P a b c y) (VV P a b c z) (lift (P m))
  generalize hA : d3 (VV P a b c y) (VV P a b c z) (lift (P m)) = A at *
  generalize hB : d3 (VV P a b c z) (VV P a b c v) (lift (P m)) = B at *
  generalize hC : d3 (VV P a b c v) (VV P a b c y) (lift (P m)) = C at *
  generalize hDD : d3 (VV P a b c v) (VV P a b c y) (VV P a b c z) = D at *
  generalize hY : VV P a b c y = Y at *
  generalize hZ : VV P a b c z = Z at *
  rw [N.vv hv] at cx cy cw
  have lx : (lift (P v)).x = (P v).1 := rfl
  have ly : (lift (P v)).y = (P v).2 := rfl
  have lw : (lift (P v)).w = 1 := rfl
  have mx : (lift (P m)).x = (P m).1 := rfl
  have my : (lift (P m)).y = (P m).2 := rfl
  have mw : (lift (P m)).w = 1 := rfl
  rw [lx, mx] at cx
  rw [ly, my] at cy
  rw [lw, mw] at cw
  have ex : D * ((P m).1 - (P v).1) = B * (Y.x - (P v).1 * Y.w) + C * (Z.x - (P v).1 * Z.w) := by grind
  have ey : D * ((P m).2 - (P v).2) = B * (Y.y - (P v).2 * Y.w) + C * (Z.y - (P v).2 * Z.w) := by grind
  have hYc : B = 0 ∨ fw (-(Y.x - (P v).1 * Y.w)) (-(Y.y - (P v).2 * Y.w)) := by
    rcases N.lab (N.rot h) with e | hy
    · left
      subst e
      have t : Tr z v (-1) := N.rot (N.rot h)
      have hz := (N.ghost_mem t).1
      have := (N.ghost t hm).1
      rw [← hZ, N.vv hz, N.vv hv, d3_lift] at hB
      omega
    · right
      have := key y ⟨z, h⟩ hy
      rw [← hY, N.vv hy]
      have e1 : (lift (P y)).x = (P y).1 := rfl
      have e2 : (lift (P y)).y = (P y).2 := rfl
      have e3 : (lift (P y)).w = 1 := rfl
      rw [e1, e2, e3, Int.mul_one, Int.mul_one]
      exact this
  have hZc : C = 0 ∨ fw (-(Z.x - (P v).1 * Z.w)) (-(Z.y - (P v).2 * Z.w)) := by
    rcases N.lab (N.rot (N.rot h)) with e | hz
    · left
      subst e
      have hy := (N.ghost_mem h).2
      have := (N.ghost h hm).1
      rw [← hY, N.vv hy, N.vv hv, d3_lift] at hC
      omega
    · right
      have := key z hz' hz
      rw [← hZ, N.vv hz]
      have e1 : (lift (P z)).x = (P z).1 := rfl
      have e2 : (lift (P z)).y = (P z).2 := rfl
      have e3 : (lift (P z)).w = 1 := rfl
      rw [e1, e2, e3, Int.mul_one, Int.mul_one]
      exact this
  exact back_sum (plt_fw hlt) hD h2 h1 ex ey hYc hZc

/-- the topmost right neighbour: behind it no triangle goes on to the right -/
def Top (P : Int → Pt) (S : List Int) (Tr : Int → Int → Int → Prop) (v w : Int) : Prop := RN P S Tr v w ∧ ∀ x, Tr v w x → ¬ (x ∈ S ∧ plt (P v) (P x))

theorem sd_as (v x y : Pt) : sd v x y = (x.1 - v.1) * (y.2 - v.2) - (x.2 - v.2) * (y.1 - v.1) := rfl

theorem NetOf.top_ex (N : NetOf P S a b c Tr) {v m : Int} (hv : v ∈ S) (hm : m ∈ S) (hlt : plt (P v) (P m)) : ∃ w, Top P S Tr v w := by
  obtain ⟨w0, hw0⟩ := N.right_ex hv hm hlt
  obtain ⟨w, hw, hR, hmax⟩ := list_max (fun w => RN P S Tr v w) (fun x y => 0 ≤ sd (P v) (P x) (P y)) (fun x y _ _ => by
      have : sd (P v) (P y) (P x) = - sd (P v) (P x) (P y) := by unfold sd; grind
      omega) (fun x y z hx hy hz h1 h2 => by
      exact tr_ge (plt_fw hx.2.1) (plt_fw hy.2.1) (plt_fw hz.2.1) h1 h2) S ⟨w0, hw0.1, hw0⟩
  refine ⟨w, hR, fun x hx hxr => ?_⟩
  have hxe : ∃ y, Tr v x y := N.pair (N.rot (N.rot hx))
  have := hmax x hxr.1 ⟨hxr.1, hxr.2, hxe⟩
  have h2 := N.side hx hv hw hxr.1
  have : sd (P v) (P x) (P w) = - sd (P v) (P w) (P x) := by unfold sd; grind
  omega

theorem line_same {v w u : Pt} (hw : plt v w) (hu : plt v u) (h0 : sd v w u = 0) (h1 : 0 ≤ dt v w u) (h2 : 0 ≤ dt v u w) : w = u := by
  have f1 := plt_fw hw
  have f2 := plt_fw hu
  unfold sd at h0
  unfold dt at h1 h2
  have e1 : u.1 - w.1 = (u.1 - v.1) - (w.1 - v.1) := by omega
  have e2 : u.2 - w.2 = (u.2 - v.2) - (w.2 - v.2) := by omega
  have e3 : w.1 - u.1 = (w.1 - v.1) - (u.1 - v.1) := by omega
  have e4 : w.2 - u.2 = (w.2 - v.2) - (u.2 - v.2) := by omega
  rw [e1, e2] at h1
  rw [e3, e4] at h2
  suffices h : w.1 - v.1 = u.1 - v.1 ∧ w.2 - v.2 = u.2 - v.2 by exact Prod.ext (by omega) (by omega)
  generalize w.1 - v.1 = wx at *
  generalize w.2 - v.2 = wy at *
  generalize u.1 - v.1 = ux at *
  generalize u.2 - v.2 = uy at *
  have hc : 0 < wx * ux + wy * uy := by
    unfold fw at f1 f2
    rcases f1 with k | ⟨k0, k⟩
    · have hux : 0 < ux := by
        rcases f2 with r | ⟨r0, r⟩
        · exact r
        · subst r0
          have := mpp k r
          rw [Int.mul_zero] at h0
          omega
      refine dpos k ?_
      have e : wx * (wx * ux + wy * uy) = ux * (wx * wx + wy * wy) := by grind
      rw [e]
      have := mpp k k
      have := sq_nn wy
      exact mpp hux (by omega)
    · subst k0
      have hux : ux = 0 := dz k (by omega)
      subst hux
      have : 0 < uy := by omega
      have := mpp k this
      omega
  have sq : (wx * wx + wy * wy) * (ux * ux + uy * uy) = (wx * ux + wy * uy) * (wx * ux + wy * uy) := by
    have : (wx * wx + wy * wy) * (ux * ux + uy * uy) - (wx * ux + wy * uy) * (wx * ux + wy * uy) = (wx * uy - wy * ux) * (wx * uy - wy * ux) := by grind
    rw [h0] at this; omega
  have ha : wx * ux + wy * uy ≤ ux * ux + uy * uy := by grind
  have hb : wx * ux + wy * uy ≤ wx * wx + wy * wy := by grind
  generalize hA : wx * wx + wy * wy = A at *
  generalize hB : ux * ux + uy * uy = B at *
  generalize hC : wx * ux + wy * uy = C at *
  have k1 : A = C := by
    rcases Int.lt_or_le C A with r | r
    · have := mpp (show 0 < A - C by omega) (show 0 < B by omega)
      have := mnn (show 0 ≤ C by omega) (show 0 ≤ B - C by omega)
      grind
    · omega
  have k2 : B = C := by
    rw [k1] at sq
    have : C * (B - C) = 0 := by grind
    have := dz hc this
    omega
  have z : (wx - ux) * (wx - ux) + (wy - uy) * (wy - uy) = 0 := by
    have : (wx - ux) * (wx - ux) + (wy - uy) * (wy - uy) = A + B - 2 * C := by rw [← hA, ← hB, ← hC]; grind
    omega
  have s1 := sq_nn (wx - ux)
  have s2 := sq_nn (wy - uy)
  constructor
  · refine Classical.byContradiction fun hne => ?_
    have := sq_pos' (show wx - ux ≠ 0 by omega); omega
  · refine Classical.byContradiction fun hne => ?_
    have := sq_pos' (show wy - uy ≠ 0 by omega); omega

theorem NetOf.edge_dt (N : NetOf P S a b c Tr) {v w u x : Int} (hv : v ∈ S) (hw : w ∈ S) (hu : u ∈ S) (h : Tr v w x) (h0 : sd (P v) (P w) (P u) = 0) : 0 ≤ dt (P v) (P w) (P u) := by
  rcases N.lab (N.rot (N.rot h)) with e | hx
  · subst e; exact (N.ghost h hu).2 h0
  · have h1 := N.circ h hv hw hx hu
    have h2 := N.side h hv hw hx
    rw [cc_line, h0] at h1
    refine dnn h2 ?_
    have : -sd (P v) (P w) (P x) * dt (P v) (P w) (P u) = -(sd (P v) (P w) (P x) * dt (P v) (P w) (P u)) := Int.neg_mul _ _
    omega

theorem NetOf.top_aux (N : NetOf P S a b c Tr) {v w u : Int} (hv : v ∈ S) (hw : Top P S Tr v w) (hu : RN P S Tr v u) (hs : 0 ≤ sd (P v) (P w) (P u)) : w = u := by
  obtain ⟨⟨hwS, hwl, x, hx⟩, hno⟩ := hw
  obtain ⟨huS, hul, y, hy⟩ := hu
  have hno := hno x hx
  rcases Int.lt_or_le 0 (sd (P v) (P w) (P u)) with k | k
  · exfalso
    rcases N.lab (N.rot (N.rot hx)) with e | hxS
    · subst e; have := (N.ghost hx huS).1; omega
    · have hvx : v ≠ x := (N.ne12 (N.rot (N.rot hx))).symm
      have hxl : plt (P x) (P v) := by
        rcases plt_tri (P v) (P x) with r | r | r
        · exact absurd ⟨hxS, r⟩ hno
        · exact absurd (N.inj v hv x hxS r) hvx
        · exact r
      have hD := N.side hx hv hwS hxS
      have hux : 0 < sd (P v) (P u) (P x) := by
        have z := plt_fw hxl
        have := tr_gt2 z (plt_fw hwl) (plt_fw hul) (by have e : ((P v).1 - (P x).1) * ((P w).2 - (P v).2) - ((P v).2 - (P x).2) * ((P w).1 - (P v).1) = sd (P v) (P w) (P x) := by unfold sd; grind
                                                       rw [e]; exact hD) (Int.le_of_lt k)
        have e : ((P v).1 - (P x).1) * ((P u).2 - (P v).2) - ((P v).2 - (P x).2) * ((P u).1 - (P v).1) = sd (P v) (P u) (P x) := by unfold sd; grind
        rw [e] at this; exact this
      have N' := N
      obtain ⟨vs, hnd, hm, net⟩ := N.net
      rcases Int.lt_or_le (sd (P w) (P x) (P u)) 0 with r | r
      · obtain ⟨d, hd⟩ := N.pair (N.rot hx)
        refine net.ncr hy hd ⟨?_, ?_, ?_, ?_⟩
        · rw [N.vv huS, N.vv hxS, N.vv hwS, d3_lift]
          have : sd (P u) (P x) (P w) = - sd (P w) (P x) (P u) := by unfold sd; grind
          omega
        · rw [N.vv hv, N.vv hxS, N.vv hwS, d3_lift]
          have : sd (P v) (P x) (P w) = - sd (P v) (P w) (P x) := by unfold sd; grind
          omega
        · rw [N.vv hv, N.vv huS, N.vv hwS, d3_lift]
          have : sd (P v) (P u) (P w) = - sd (P v) (P w) (P u) := by unfold sd; grind
          omega
        · rw [N.vv hv, N.vv huS, N.vv hxS, d3_lift]; exact hux
      · have sep : Sep (VV P a b c) vs := by
          refine sep_VV (N.near _ N.ma) (N.near _ N.mb) (N.near _ N.mc) ?_ ?_
          · intro i hi
            rcases (hm i).1 hi with h | h
            · exact .inl h
            · exact .inr ⟨N.nn i h, N.near i h⟩
          · intro i hi j hj hi0 hj0 e
            have hi' : i ∈ S := by
              rcases (hm i).1 hi with h | h
              · omega
              · exact h
            have hj' : j ∈ S := by
              rcases (hm j).1 hj with h | h
              · omega
              · exact h
            exact N.inj i hi' j hj' e
        have mu : u ∈ vs := (hm u).2 (.inr huS)
        obtain ⟨hwt, l, lz, l0, l1⟩ := sep u mu
        have nvu : v ≠ u := N'.ne12 hy
        have nwu : w ≠ u := by intro e; subst e; have : sd (P v) (P w) (P w) = 0 := by { unfold sd; grind }; omega
        have nxu : x ≠ u := by intro e; subst e; have : sd (P v) (P x) (P x) = 0 := by { unfold sd; grind }; omega
        have := in_below (net.pos hx) (p := VV P a b c u) (by rw [N.vv hwS, N.vv hxS, N.vv huS, d3_lift]; exact r)
          (by rw [N.vv hv, N.vv hxS, N.vv huS, d3_lift]; have : sd (P x) (P v) (P u) = sd (P v) (P u) (P x) := by { unfold sd; grind }; omega)
          (by rw [N.vv hv, N.vv hwS, N.vv huS, d3_lift]; omega) l0 (l1 v ((hm v).2 (.inr hv)) nvu) (l1 w ((hm w).2 (.inr hwS)) nwu) (l1 x ((hm x).2 (.inr hxS)) nxu) lz hwt
        have := net.out hx u mu
        omega
  · have e0 : sd (P v) (P w) (P u) = 0 := by omega
    have e0' : sd (P v) (P u) (P w) = 0 := by have : sd (P v) (P u) (P w) = - sd (P v) (P w) (P u) := by { unfold sd; grind }; omega
    exact N.inj w hwS u huS (line_same hwl hul e0 (N.edge_dt hv hwS huS hx e0) (N.edge_dt hv huS hwS hy e0'))

theorem NetOf.top_uniq (N : NetOf P S a b c Tr) {v w u : Int} (hv : v ∈ S) (hw : Top P S Tr v w) (hu : Top P S Tr v u) : w = u := by
  rcases Int.le_total 0 (sd (P v) (P w) (P u)) with k | k
  · exact N.top_aux hv hw hu.1 k
  · exact (N.top_aux hv hu hw.1 (by have : sd (P v) (P u) (P w) = - sd (P v) (P w) (P u) := by { unfold sd; grind }
                                    omega)).symm
end
end Go.Proofs.Ytgpapegpdfonpaa
