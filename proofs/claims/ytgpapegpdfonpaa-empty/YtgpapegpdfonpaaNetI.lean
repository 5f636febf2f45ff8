/-
  The areas of a net's triangles, all together: that of the corners.
-/
import Derived.Test.YtgpapegpdfonpaaNetH
namespace Go.Proofs.Ytgpapegpdfonpaa
set_option linter.unusedVariables false
set_option linter.unusedSimpArgs false

def lsum {α : Type} (f : α → Int) : List α → Int
  | [] => 0
  | a :: L => f a + lsum f L
theorem lsum_append {α : Type} (f : α → Int) : ∀ L M : List α, lsum f (L ++ M) = lsum f L + lsum f M
  | [], M => by simp [lsum]
  | a :: L, M => by simp only [List.cons_append, lsum, lsum_append f L M]; omega
theorem lsum_congr {α : Type} {f g : α → Int} : ∀ {L : List α}, (∀ x ∈ L, f x = g x) → lsum f L = lsum g L
  | [], _ => rfl
  | a :: L, h => by simp only [lsum]; rw [h a (by simp), lsum_congr (fun x hx => h x (by simp [hx]))]
theorem lsum_add {α : Type} (f g : α → Int) : ∀ L : List α, lsum (fun x => f x + g x) L = lsum f L + lsum g L
  | [] => rfl
  | a :: L => by simp only [lsum, lsum_add f g L]; omega
theorem lsum_neg {α : Type} (f : α → Int) : ∀ L : List α, lsum (fun x => - f x) L = - lsum f L
  | [] => rfl
  | a :: L => by simp only [lsum, lsum_neg f L]; omega
theorem lsum_erase {α : Type} [DecidableEq α] (f : α → Int) : ∀ (L : List α) (a : α), a ∈ L → lsum f L = f a + lsum f (L.erase a)
  | [], a, h => by simp at h
  | b :: L, a, h => by
    by_cases e : b = a
    · subst e; simp [lsum]
    · have ha : a ∈ L := by
        rcases List.mem_cons.1 h with k | k
        · exact absurd k.symm e
        · exact k
      rw [List.erase_cons_tail (by simpa using e)]
      simp only [lsum, lsum_erase f L a ha]
      omega
theorem lsum_bij {α β : Type} {f : α → Int} {g : β → Int} (φ : α → β) : ∀ {L : List α} {M : List β}, L.Nodup → M.Nodup → (∀ x ∈ L, ∀ y ∈ L, φ x = φ y → x = y) → (∀ x ∈ L, φ x ∈ M) → (∀ y ∈ M, ∃ x ∈ L, φ x = y) → (∀ x ∈ L, f x = g (φ x)) → lsum f L = lsum g M := by
  classical
  intro L
  induction L with
  | nil =>
    intro M _ _ _ _ hs _
    have : M = [] := by
      cases M with
      | nil => rfl
      | cons y M => obtain ⟨x, hx, _⟩ := hs y (by simp); simp at hx
    subst this; rfl
  | cons a L ih =>
    intro M hL hM hi hm hs hf
    have hL' := List.nodup_cons.1 hL
    have ha : φ a ∈ M := hm a (by simp)
    rw [lsum_erase g M (φ a) ha]
    simp only [lsum]
    rw [hf a (by simp)]
    congr 1
    refine ih hL'.2 (hM.erase _) (fun x hx y hy => hi x (by simp [hx]) y (by simp [hy])) ?_ ?_ (fun x hx => hf x (by simp [hx]))
    · intro x hx
      have hne : φ x ≠ φ a := fun e => hL'.1 (hi x (by simp [hx]) a (by simp) e ▸ hx)
      exact (List.mem_erase_of_ne hne).2 (hm x (by simp [hx]))
    · intro y hy
      have hy' := List.mem_of_mem_erase hy
      obtain ⟨x, hx, e⟩ := hs y hy'
      rcases List.mem_cons.1 hx with k | k
      · subst k
        rw [← e] at hy
        exact absurd hy (hM.not_mem_erase)
      · exact ⟨x, k, e⟩
theorem lsum_split {α : Type} (f : α → Int) (p : α → Bool) : ∀ L : List α, lsum f L = lsum f (L.filter p) + lsum f (L.filter (fun x => ! p x))
  | [] => rfl
  | a :: L => by
    have := lsum_split f p L
    by_cases h : p a
    · simp [h, lsum]; omega
    · simp [h, lsum]; omega
theorem lsum_three {α : Type} (f : α → Int) (p q r : α → Bool) : ∀ L : List α, (∀ x ∈ L, (p x = true ∧ q x = false ∧ r x = false) ∨ (p x = false ∧ q x = true ∧ r x = false) ∨ (p x = false ∧ q x = false ∧ r x = true)) →
    lsum f L = lsum f (L.filter p) + lsum f (L.filter q) + lsum f (L.filter r)
  | [], _ => rfl
  | a :: L, h => by
    have ih := lsum_three f p q r L (fun x hx => h x (by simp [hx]))
    rcases h a (by simp) with ⟨h1, h2, h3⟩ | ⟨h1, h2, h3⟩ | ⟨h1, h2, h3⟩ <;> simp [h1, h2, h3, lsum] <;> omega
theorem lsum_zero {α : Type} {f : α → Int} : ∀ {L : List α}, (∀ x ∈ L, f x = 0) → lsum f L = 0
  | [], _ => rfl
  | a :: L, h => by simp only [lsum]; rw [h a (by simp), lsum_zero (fun x hx => h x (by simp [hx]))]; rfl
theorem lsum_one {α : Type} {f : α → Int} : ∀ {L : List α} {a : α}, L.Nodup → a ∈ L → (∀ x ∈ L, x ≠ a → f x = 0) → lsum f L = f a
  | [], a, _, h, _ => by simp at h
  | b :: L, a, hn, h, hz => by
    have hn' := List.nodup_cons.1 hn
    simp only [lsum]
    by_cases e : b = a
    · subst e
      rw [lsum_zero (fun x hx => hz x (by simp [hx]) (fun e => hn'.1 (e ▸ hx)))]; omega
    · have ha : a ∈ L := by
        rcases List.mem_cons.1 h with k | k
        · exact absurd k.symm e
        · exact k
      rw [hz b (by simp) e, lsum_one hn'.2 ha (fun x hx => hz x (by simp [hx]))]; omega

/-- elements that lie in one class each -/
theorem lsum_classes {α : Type} (f : α → Int) (m : Nat) (p : Nat → α → Bool) : ∀ L : List α, (∀ x ∈ L, ∃ i, i < m ∧ p i x = true ∧ ∀ j, j < m → p j x = true → j = i) → lsum f L = lsum (fun i => lsum f (L.filter (p i))) (List.range m)
  | [], _ => (lsum_zero (L := List.range m) (f := fun i => lsum f (List.filter (p i) [])) (fun i _ => rfl)).symm
  | a :: L, h => by
    have ih := lsum_classes f m p L (fun x hx => h x (by simp [hx]))
    obtain ⟨i, hi, h1, h2⟩ := h a (by simp)
    have e : lsum (fun i => lsum f ((a :: L).filter (p i))) (List.range m) = lsum (fun i => (if p i a = true then f a else 0) + lsum f (L.filter (p i))) (List.range m) := by
      refine lsum_congr (fun j _ => ?_)
      by_cases k : p j a = true
      · simp [k, lsum]
      · simp [k, lsum]
    rw [e, lsum_add, ← ih]
    simp only [lsum]
    congr 1
    rw [lsum_one (a := i) List.nodup_range (List.mem_range.2 hi)]
    · rw [if_pos h1]
    · intro j hj hne
      rw [if_neg (fun k => hne (h2 j (List.mem_range.1 hj) k))]

def cr (u v : Pt) : Int := u.1 * v.2 - u.2 * v.1
theorem cr_swap (u v : Pt) : cr u v = - cr v u := by unfold cr; grind
theorem sd_cr (x y z : Pt) : sd x y z = cr x y + cr y z + cr z x := by unfold sd cr; grind

/-- twice the area of the corners, by a fan of k of them -/
def fan (h : Nat → Pt) : Nat → Int
  | 0 => 0
  | k + 1 => fan h k + (if 2 ≤ k then sd (h 0) (h (k - 1)) (h k) else 0)
theorem fan_le (h : Nat → Pt) : ∀ k, k ≤ 2 → fan h k = 0 := by
  intro k hk
  match k, hk with
  | 0, _ => rfl
  | 1, _ => rfl
  | 2, _ => rfl
theorem fan_cr (h : Nat → Pt) : ∀ k, fan h (k + 2) = lsum (fun i => cr (h i) (h (i + 1))) (List.range (k + 1)) + cr (h (k + 1)) (h 0)
  | 0 => by
    rw [fan_le h 2 (by omega)]
    simp only [Nat.zero_add, List.range_one, lsum]
    have := cr_swap (h 0) (h 1)
    omega
  | k + 1 => by
    have ih := fan_cr h k
    rw [List.range_succ, lsum_append]
    simp only [lsum]
    show fan h (k + 2) + (if 2 ≤ k + 2 then sd (h 0) (h (k + 2 - 1)) (h (k + 2)) else 0) = _
    rw [ih, if_pos (by omega), show k + 2 - 1 = k + 1 by omega, sd_cr]
    have := cr_swap (h 0) (h (k + 1))
    simp only [show k + 1 + 1 = k + 2 by omega]
    omega

section
variable {P : Int → Pt} {S : List Int} {a b c : Int} {Tr : Int → Int → Int → Prop} {h : Nat → Pt} {m : Nat}
open Classical

theorem fan_all (hm : 3 ≤ m) : fan h m = lsum (fun i => cr (h i) (h ((i + 1) % m))) (List.range m) := by
  obtain ⟨k, rfl⟩ : ∃ k, m = k + 2 := ⟨m - 2, by omega⟩
  rw [fan_cr, List.range_succ (n := k + 1), lsum_append]
  simp only [lsum]
  rw [show k + 1 + 1 = k + 2 by omega, Nat.mod_self]
  have : lsum (fun i => cr (h i) (h ((i + 1) % (k + 2)))) (List.range (k + 1)) = lsum (fun i => cr (h i) (h (i + 1))) (List.range (k + 1)) := by
    refine lsum_congr (fun i hi => ?_)
    rw [Nat.mod_eq_of_lt (by have := List.mem_range.1 hi; omega)]
  rw [this]; omega

theorem NetOf.area_ts (N : NetOf P S a b c Tr) (hS : S.Nodup) (ts : List (Int × Int × Int)) (hts : ts.Nodup) (hmem : ∀ x y z, (x, y, z) ∈ ts ↔ Tr x y z ∧ 0 ≤ x ∧ x < y ∧ x < z)
    (G : List (Int × Int)) (hG : G.Nodup) (hGm : ∀ x y, (x, y) ∈ G ↔ Tr x y (-1)) :
    lsum (fun t => sd (P t.1) (P t.2.1) (P t.2.2)) ts = lsum (fun q => cr (P q.2) (P q.1)) G := by
  have hA := nodup_allTr (Tr := Tr) hS
  have hP := nodup_pairs hS
  have hT : ∀ x y z, (x, y, z) ∈ ts → Tr x y z ∧ x ∈ S ∧ y ∈ S ∧ z ∈ S ∧ x < y ∧ x < z := by
    intro x y z hh
    obtain ⟨t, h0, h1, h2⟩ := (hmem x y z).1 hh
    exact ⟨t, N.mem t h0, N.mem (N.rot t) (by omega), N.mem (N.rot (N.rot t)) (by omega), h1, h2⟩
  have e1 : lsum (fun t : Int × Int × Int => cr (P t.1) (P t.2.1)) (allTr S Tr) = lsum (fun t : Int × Int × Int => sd (P t.1) (P t.2.1) (P t.2.2)) ts := by
    rw [lsum_three _ (fun t : Int × Int × Int => decide (t ∈ ts)) (fun t => decide ((t.2.1, t.2.2, t.1) ∈ ts)) (fun t => decide ((t.2.2, t.1, t.2.1) ∈ ts)) (allTr S Tr) (by
      rintro ⟨x, y, z⟩ hh
      obtain ⟨t, hx, hy, hz⟩ := mem_allTr.1 hh
      obtain ⟨n1, n2, n3⟩ := N.ne3 t
      have h0 := N.nn x hx
      have h1 := N.nn y hy
      have h2 := N.nn z hz
      have t2 := N.rot t
      have t3 := N.rot t2
      simp only [decide_eq_true_eq, decide_eq_false_iff_not, hmem]
      by_cases k1 : x < y <;> by_cases k2 : x < z <;> by_cases k3 : y < z
      · exact .inl ⟨⟨t, h0, k1, k2⟩, fun r => by omega, fun r => by omega⟩
      · exact .inl ⟨⟨t, h0, k1, k2⟩, fun r => by omega, fun r => by omega⟩
      · omega
      · exact .inr (.inr ⟨fun r => by omega, fun r => by omega, ⟨t3, h2, by omega, by omega⟩⟩)
      · exact .inr (.inl ⟨fun r => by omega, ⟨t2, h1, by omega, by omega⟩, fun r => by omega⟩)
      · omega
      · exact .inr (.inl ⟨fun r => by omega, ⟨t2, h1, by omega, by omega⟩, fun r => by omega⟩)
      · exact .inr (.inr ⟨fun r => by omega, fun r => by omega, ⟨t3, h2, by omega, by omega⟩⟩))]
    have p1 : lsum (fun t : Int × Int × Int => cr (P t.1) (P t.2.1)) ((allTr S Tr).filter (fun t => decide (t ∈ ts))) = lsum (fun t : Int × Int × Int => cr (P t.1) (P t.2.1)) ts := by
      refine lsum_bij id (hA.filter _) hts (fun _ _ _ _ e => e) ?_ ?_ (fun _ _ => rfl)
      · intro t ht; rw [List.mem_filter, decide_eq_true_eq] at ht; exact ht.2
      · rintro ⟨x, y, z⟩ ht
        have := hT x y z ht
        refine ⟨(x, y, z), ?_, rfl⟩
        rw [List.mem_filter, decide_eq_true_eq]
        exact ⟨mem_allTr.2 ⟨this.1, this.2.1, this.2.2.1, this.2.2.2.1⟩, ht⟩
    have p2 : lsum (fun t : Int × Int × Int => cr (P t.1) (P t.2.1)) ((allTr S Tr).filter (fun t => decide ((t.2.1, t.2.2, t.1) ∈ ts))) = lsum (fun t : Int × Int × Int => cr (P t.2.2) (P t.1)) ts := by
      refine lsum_bij (fun t => (t.2.1, t.2.2, t.1)) (hA.filter _) hts ?_ ?_ ?_ (fun _ _ => rfl)
      · rintro ⟨x, y, z⟩ _ ⟨x', y', z'⟩ _ e
        simp at e ⊢; omega
      · intro t ht; rw [List.mem_filter, decide_eq_true_eq] at ht; exact ht.2
      · rintro ⟨x, y, z⟩ ht
        have := hT x y z ht
        refine ⟨(z, x, y), ?_, rfl⟩
        rw [List.mem_filter, decide_eq_true_eq]
        exact ⟨mem_allTr.2 ⟨N.rot (N.rot this.1), this.2.2.2.1, this.2.1, this.2.2.1⟩, ht⟩
    have p3 : lsum (fun t : Int × Int × Int => cr (P t.1) (P t.2.1)) ((allTr S Tr).filter (fun t => decide ((t.2.2, t.1, t.2.1) ∈ ts))) = lsum (fun t : Int × Int × Int => cr (P t.2.1) (P t.2.2)) ts := by
      refine lsum_bij (fun t => (t.2.2, t.1, t.2.1)) (hA.filter _) hts ?_ ?_ ?_ (fun _ _ => rfl)
      · rintro ⟨x, y, z⟩ _ ⟨x', y', z'⟩ _ e
        simp at e ⊢; omega
      · intro t ht; rw [List.mem_filter, decide_eq_true_eq] at ht; exact ht.2
      · rintro ⟨x, y, z⟩ ht
        have := hT x y z ht
        refine ⟨(y, z, x), ?_, rfl⟩
        rw [List.mem_filter, decide_eq_true_eq]
        exact ⟨mem_allTr.2 ⟨N.rot this.1, this.2.2.1, this.2.2.2.1, this.2.1⟩, ht⟩
    rw [p1, p2, p3, ← lsum_add, ← lsum_add]
    refine lsum_congr (fun t _ => ?_)
    rw [sd_cr]; omega
  generalize hDEe : (pairs S).filter (fun q => decide (∃ x, Tr q.1 q.2 x)) = DE
  have hDEn : DE.Nodup := by rw [← hDEe]; exact hP.filter _
  have hDE : ∀ v w, (v, w) ∈ DE ↔ (v ∈ S ∧ w ∈ S) ∧ ∃ x, Tr v w x := by
    intro v w
    rw [← hDEe, List.mem_filter, decide_eq_true_eq, mem_pairs]
  have e2 : lsum (fun q : Int × Int => cr (P q.1) (P q.2)) DE = 0 := by
    have : lsum (fun q : Int × Int => cr (P q.1) (P q.2)) DE = lsum (fun q : Int × Int => - cr (P q.1) (P q.2)) DE := by
      refine lsum_bij (fun q => (q.2, q.1)) hDEn hDEn ?_ ?_ ?_ ?_
      · rintro ⟨v, w⟩ _ ⟨v', w'⟩ _ e
        simp at e ⊢; omega
      · rintro ⟨v, w⟩ hh
        obtain ⟨⟨hv, hw⟩, x, hx⟩ := (hDE v w).1 hh
        exact (hDE w v).2 ⟨⟨hw, hv⟩, N.pair hx⟩
      · rintro ⟨v, w⟩ hh
        obtain ⟨⟨hv, hw⟩, x, hx⟩ := (hDE v w).1 hh
        exact ⟨(w, v), (hDE w v).2 ⟨⟨hw, hv⟩, N.pair hx⟩, rfl⟩
      · rintro ⟨v, w⟩ _
        exact cr_swap _ _
    rw [lsum_neg] at this
    omega
  have e3 := lsum_split (fun q : Int × Int => cr (P q.1) (P q.2)) (fun q : Int × Int => decide (∃ x ∈ S, Tr q.1 q.2 x)) DE
  have b6 : lsum (fun t : Int × Int × Int => cr (P t.1) (P t.2.1)) (allTr S Tr) = lsum (fun q : Int × Int => cr (P q.1) (P q.2)) (DE.filter (fun q : Int × Int => decide (∃ x ∈ S, Tr q.1 q.2 x))) := by
    refine lsum_bij (fun t => (t.1, t.2.1)) hA (hDEn.filter _) ?_ ?_ ?_ (fun _ _ => rfl)
    · rintro ⟨x, y, z⟩ h ⟨x', y', z'⟩ h' e
      have h := mem_allTr.1 h
      have h' := mem_allTr.1 h'
      simp at e
      obtain ⟨rfl, rfl⟩ := e
      rw [N.fn h.1 h'.1]
    · rintro ⟨x, y, z⟩ h
      obtain ⟨t, hx, hy, hz⟩ := mem_allTr.1 h
      rw [List.mem_filter, decide_eq_true_eq, hDE]
      exact ⟨⟨⟨hx, hy⟩, z, t⟩, z, hz, t⟩
    · rintro ⟨v, w⟩ h
      rw [List.mem_filter, decide_eq_true_eq, hDE] at h
      obtain ⟨⟨⟨hv, hw⟩, _⟩, x, hx, t⟩ := h
      exact ⟨(v, w, x), mem_allTr.2 ⟨t, hv, hw, hx⟩, rfl⟩
  have b7 : lsum (fun q : Int × Int => cr (P q.1) (P q.2)) (DE.filter (fun q : Int × Int => ! decide (∃ x ∈ S, Tr q.1 q.2 x))) = lsum (fun q : Int × Int => cr (P q.1) (P q.2)) G := by
    refine lsum_bij id (hDEn.filter _) hG (fun _ _ _ _ e => e) ?_ ?_ (fun _ _ => rfl)
    · rintro ⟨v, w⟩ h
      rw [List.mem_filter, hDE] at h
      simp only [Bool.not_eq_true', decide_eq_false_iff_not] at h
      obtain ⟨⟨⟨hv, hw⟩, x, hx⟩, h2⟩ := h
      rcases N.lab (N.rot (N.rot hx)) with e | e
      · subst e; exact (hGm v w).2 hx
      · exact absurd ⟨x, e, hx⟩ h2
    · rintro ⟨v, w⟩ h
      have h := (hGm v w).1 h
      have hm := N.ghost_mem h
      refine ⟨(v, w), ?_, rfl⟩
      rw [List.mem_filter, hDE]
      simp only [Bool.not_eq_true', decide_eq_false_iff_not]
      refine ⟨⟨hm, -1, h⟩, ?_⟩
      rintro ⟨x, hx, t⟩
      have := N.fn t h
      have := N.nn x hx
      omega
  have e4 : lsum (fun q : Int × Int => cr (P q.2) (P q.1)) G = - lsum (fun q : Int × Int => cr (P q.1) (P q.2)) G := by
    rw [← lsum_neg]
    refine lsum_congr (fun q _ => ?_)
    exact cr_swap _ _
  omega

theorem NetOf.area_G (N : NetOf P S a b c Tr) (hS : S.Nodup) (Y : Poly P S h m) (G : List (Int × Int)) (hG : G.Nodup) (hGm : ∀ x y, (x, y) ∈ G ↔ Tr x y (-1)) :
    lsum (fun q => cr (P q.2) (P q.1)) G = fan h m := by
  rw [fan_all Y.three]
  rw [lsum_classes _ m (fun i q => decide (sd (h i) (h ((i + 1) % m)) (P q.1) = 0 ∧ sd (h i) (h ((i + 1) % m)) (P q.2) = 0)) G (by
    rintro ⟨x, y⟩ hq
    have ht := (hGm x y).1 hq
    obtain ⟨hx, hy⟩ := N.ghost_mem ht
    have hne : P x ≠ P y := fun e => N.ne12 ht (N.inj x hx y hy e)
    obtain ⟨i, hi, h1, h2⟩ := N.on_edge Y ht
    refine ⟨i, hi, by simp [h1, h2], fun j hj hh => ?_⟩
    simp only [decide_eq_true_eq] at hh
    exact Y.edge_uniq hj hi hx hy hne hh.1 hh.2 h1 h2)]
  refine lsum_congr (fun i hi => ?_)
  have hi := List.mem_range.1 hi
  have hi1 : (i + 1) % m < m := Nat.mod_lt _ (by omega)
  generalize hA : h i = A
  generalize hB : h ((i + 1) % m) = B
  have hAB : A ≠ B := by rw [← hA, ← hB]; exact Y.ne hi
  have mG : ∀ x y, (x, y) ∈ G.filter (fun q : Int × Int => decide (sd A B (P q.1) = 0 ∧ sd A B (P q.2) = 0)) ↔ Tr x y (-1) ∧ sd A B (P x) = 0 ∧ sd A B (P y) = 0 := by
    intro x y
    rw [List.mem_filter, decide_eq_true_eq, hGm]
  generalize hGi : G.filter (fun q : Int × Int => decide (sd A B (P q.1) = 0 ∧ sd A B (P q.2) = 0)) = Gi at mG
  have hGin : Gi.Nodup := by rw [← hGi]; exact hG.filter _
  have t1 : lsum (fun q : Int × Int => cr (P q.2) (P q.1)) Gi = lsum (fun q : Int × Int => cr A (P q.1)) Gi - lsum (fun q : Int × Int => cr A (P q.2)) Gi := by
    have : lsum (fun q : Int × Int => cr (P q.2) (P q.1)) Gi = lsum (fun q : Int × Int => cr A (P q.1) + - cr A (P q.2)) Gi := by
      refine lsum_congr ?_
      rintro ⟨x, y⟩ hq
      obtain ⟨_, h1, h2⟩ := (mG x y).1 hq
      have z : sd (P x) (P y) A = 0 := by
        have f := sd_line A B (P x) (P y) A
        rw [h1, h2, sd_A] at f
        simp only [Int.sub_self, Int.mul_zero, Int.zero_mul] at f
        exact dz (len2_pos hAB) f
      rw [sd_cr] at z
      have s1 := cr_swap (P y) (P x)
      have s2 := cr_swap (P y) A
      dsimp only
      omega
    rw [this, lsum_add, lsum_neg]; omega
  -- the points on this edge
  generalize hSi : S.filter (fun u => decide (sd A B (P u) = 0)) = Si
  have mS : ∀ u, u ∈ Si ↔ u ∈ S ∧ sd A B (P u) = 0 := by intro u; rw [← hSi, List.mem_filter, decide_eq_true_eq]
  have hSin : Si.Nodup := by rw [← hSi]; exact hS.filter _
  have one : ∀ C : Pt, sd A B C = 0 → (∃ u ∈ S, P u = C) → lsum (fun u => cr A (P u)) Si = cr A C + lsum (fun u => cr A (P u)) (Si.filter (fun u => ! decide (P u = C))) := by
    intro C hC hu
    obtain ⟨u, hu, e⟩ := hu
    rw [lsum_split _ (fun u => decide (P u = C)) Si]
    congr 1
    rw [lsum_one (a := u) (hSin.filter _)]
    · rw [e]
    · rw [List.mem_filter, decide_eq_true_eq, mS, e]; exact ⟨⟨hu, hC⟩, rfl⟩
    · intro v hv hne
      rw [List.mem_filter, decide_eq_true_eq, mS] at hv
      exact absurd (N.inj v hv.1.1 u hu (hv.2.trans e.symm)) hne
  have oA := one A (sd_A _ _) (by obtain ⟨u, hu, e⟩ := Y.mem i hi; exact ⟨u, hu, e.trans hA⟩)
  have oB := one B (sd_B _ _) (by obtain ⟨u, hu, e⟩ := Y.mem _ hi1; exact ⟨u, hu, e.trans hB⟩)
  have zA : cr A A = 0 := by unfold cr; grind
  have t2 : lsum (fun q : Int × Int => cr A (P q.1)) Gi = lsum (fun u => cr A (P u)) (Si.filter (fun u => ! decide (P u = A))) := by
    refine lsum_bij (fun q => q.1) hGin (hSin.filter _) ?_ ?_ ?_ (fun _ _ => rfl)
    · rintro ⟨x, y⟩ hq ⟨x', y'⟩ hq' e
      have k := ((mG x y).1 hq).1
      have k' := ((mG x' y').1 hq').1
      dsimp only at e
      subst e
      rw [N.fn (N.rot (N.rot k)) (N.rot (N.rot k'))]
    · rintro ⟨x, y⟩ hq
      obtain ⟨k, h1, h2⟩ := (mG x y).1 hq
      have hd := N.edge_dir Y hi k (by rw [hA, hB]; exact h1) (by rw [hA, hB]; exact h2)
      obtain ⟨hx, hy⟩ := N.ghost_mem k
      have r := Y.tau_range hi hy (by rw [hA, hB]; exact h2)
      rw [hA, hB] at hd r
      rw [List.mem_filter, mS]
      simp only [Bool.not_eq_true', decide_eq_false_iff_not]
      refine ⟨⟨hx, h1⟩, fun e => ?_⟩
      rw [e, tau_A] at hd
      omega
    · intro u hu
      rw [List.mem_filter, mS] at hu
      simp only [Bool.not_eq_true', decide_eq_false_iff_not] at hu
      obtain ⟨v, hv, h1, ht⟩ := N.edge_prev Y hi hu.1.1 (by rw [hA, hB]; exact hu.1.2) (by rw [hA]; exact hu.2)
      rw [hA, hB] at h1
      exact ⟨(u, v), (mG u v).2 ⟨ht, hu.1.2, h1⟩, rfl⟩
  have t3 : lsum (fun q : Int × Int => cr A (P q.2)) Gi = lsum (fun u => cr A (P u)) (Si.filter (fun u => ! decide (P u = B))) := by
    refine lsum_bij (fun q => q.2) hGin (hSin.filter _) ?_ ?_ ?_ (fun _ _ => rfl)
    · rintro ⟨x, y⟩ hq ⟨x', y'⟩ hq' e
      have k := ((mG x y).1 hq).1
      have k' := ((mG x' y').1 hq').1
      dsimp only at e
      subst e
      rw [N.fn (N.rot k) (N.rot k')]
    · rintro ⟨x, y⟩ hq
      obtain ⟨k, h1, h2⟩ := (mG x y).1 hq
      have hd := N.edge_dir Y hi k (by rw [hA, hB]; exact h1) (by rw [hA, hB]; exact h2)
      obtain ⟨hx, hy⟩ := N.ghost_mem k
      have r := Y.tau_range hi hx (by rw [hA, hB]; exact h1)
      rw [hA, hB] at hd r
      rw [List.mem_filter, mS]
      simp only [Bool.not_eq_true', decide_eq_false_iff_not]
      refine ⟨⟨hy, h2⟩, fun e => ?_⟩
      rw [e, tau_B] at hd
      omega
    · intro u hu
      rw [List.mem_filter, mS] at hu
      simp only [Bool.not_eq_true', decide_eq_false_iff_not] at hu
      obtain ⟨v, hv, h1, ht⟩ := N.edge_next Y hi hu.1.1 (by rw [hA, hB]; exact hu.1.2) (by rw [hB]; exact hu.2)
      rw [hA, hB] at h1
      exact ⟨(v, u), (mG v u).2 ⟨ht, h1, hu.1.2⟩, rfl⟩
  have : lsum (fun q : Int × Int => cr (P q.2) (P q.1)) Gi = cr A B := by omega
  exact this
end
end Go.Proofs.Ytgpapegpdfonpaa
