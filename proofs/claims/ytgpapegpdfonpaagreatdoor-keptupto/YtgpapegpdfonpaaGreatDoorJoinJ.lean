/-
  Points joined to triangles, one after the other.
-/
import Derived.Test.YtgpapegpdfonpaaGreatDoorJoinI
import Derived.Test.YtgpapegpdfonpaaGreatDoorSidesMath
namespace Go.Proofs.YtgpapegpdfonpaaGreatDoor
set_option linter.unusedVariables false
set_option linter.unusedSimpArgs false
open Go.RowKit Go.Maps

/-- the net behind the first k places of the order -/
def trAt (l : List Pt) (is : List Nat) (t p q r : Nat) : Nat → (Int → Int → Int → Prop)
  | 0 => firstTr p q r
  | k + 1 => if k < 2 ∨ k = t then trAt l is t p q r k else addTr (VV (pOf l) p q r) (trAt l is t p q r k) (is.getD k 0 : Nat)
def sAt (is : List Nat) (t p q r : Nat) : Nat → List Int
  | 0 => [(p : Int), q, r]
  | k + 1 => if k < 2 ∨ k = t then sAt is t p q r k else ((is.getD k 0 : Nat) : Int) :: sAt is t p q r k

/-- the three points of the first net, around -/
structure Base (l : List Pt) (is : List Nat) (t p q r : Nat) : Prop where
  off : FirstOff l is t
  pqr : (askS l (is.getD 0 0) (is.getD 1 0) (is.getD t 0) < 0 ∧ p = is.getD 0 0 ∧ q = is.getD t 0 ∧ r = is.getD 1 0) ∨ (0 < askS l (is.getD 0 0) (is.getD 1 0) (is.getD t 0) ∧ p = is.getD 0 0 ∧ q = is.getD 1 0 ∧ r = is.getD t 0)

section
variable {l : List Pt} {is : List Nat} {t p q r : Nat}

theorem base_ex (h : FirstOff l is t) : ∃ p q r, Base l is t p q r := by
  rcases Int.lt_or_le (askS l (is.getD 0 0) (is.getD 1 0) (is.getD t 0)) 0 with k | k
  · exact ⟨_, _, _, h, .inl ⟨k, rfl, rfl, rfl⟩⟩
  · exact ⟨_, _, _, h, .inr ⟨by have := h.2.2.1; omega, rfl, rfl, rfl⟩⟩

theorem Base.mems (B : Base l is t p q r) : p ∈ is ∧ q ∈ is ∧ r ∈ is := by
  obtain ⟨h2, ht, _⟩ := B.off
  have m0 := mem_getD (is := is) (show 0 < is.length by omega)
  have m1 := mem_getD (is := is) (show 1 < is.length by omega)
  have mt := mem_getD ht
  rcases B.pqr with ⟨_, rfl, rfl, rfl⟩ | ⟨_, rfl, rfl, rfl⟩
  · exact ⟨m0, mt, m1⟩
  · exact ⟨m0, m1, mt⟩

theorem Base.sd (B : Base l is t p q r) : 0 < sd (ptAt l p) (ptAt l q) (ptAt l r) := by
  rcases B.pqr with ⟨h, rfl, rfl, rfl⟩ | ⟨h, rfl, rfl, rfl⟩
  · rw [askS_sd] at h
    have e : Go.Proofs.YtgpapegpdfonpaaGreatDoor.sd (ptAt l (is.getD 0 0)) (ptAt l (is.getD t 0)) (ptAt l (is.getD 1 0)) = - Go.Proofs.YtgpapegpdfonpaaGreatDoor.sd (ptAt l (is.getD 0 0)) (ptAt l (is.getD 1 0)) (ptAt l (is.getD t 0)) := by unfold Go.Proofs.YtgpapegpdfonpaaGreatDoor.sd; grind
    rw [e]
    rcases Int.lt_or_le (Go.Proofs.YtgpapegpdfonpaaGreatDoor.sd (ptAt l (is.getD 0 0)) (ptAt l (is.getD 1 0)) (ptAt l (is.getD t 0))) 0 with k | k
    · omega
    · rcases Int.lt_or_le 0 (Go.Proofs.YtgpapegpdfonpaaGreatDoor.sd (ptAt l (is.getD 0 0)) (ptAt l (is.getD 1 0)) (ptAt l (is.getD t 0))) with k' | k'
      · rw [sg_one k'] at h; omega
      · rw [(sg_zero_iff _).2 (by omega)] at h; omega
  · rw [askS_sd] at h
    exact (sg_pos_iff _).1 h

theorem mem_sAt (B : Base l is t p q r) : ∀ k, k ≤ is.length → ∀ i : Int, i ∈ sAt is t p q r k ↔ ((i = p ∨ i = q ∨ i = r) ∨ ∃ j, 2 ≤ j ∧ j < k ∧ j ≠ t ∧ i = (is.getD j 0 : Nat)) := by
  intro k
  induction k with
  | zero => intro _ i; simp [sAt]
  | succ k ih =>
    intro hk i
    have ih := ih (by omega) i
    unfold sAt
    split
    · rename_i h
      rw [ih]
      constructor
      · rintro (h1 | ⟨j, h1, h2, h3, h4⟩)
        · exact .inl h1
        · exact .inr ⟨j, h1, by omega, h3, h4⟩
      · rintro (h1 | ⟨j, h1, h2, h3, h4⟩)
        · exact .inl h1
        · exact .inr ⟨j, h1, by omega, h3, h4⟩
    · rename_i h
      rw [List.mem_cons, ih]
      constructor
      · rintro (h1 | h1 | ⟨j, h1, h2, h3, h4⟩)
        · exact .inr ⟨k, by omega, by omega, by omega, h1⟩
        · exact .inl h1
        · exact .inr ⟨j, h1, by omega, h3, h4⟩
      · rintro (h1 | ⟨j, h1, h2, h3, h4⟩)
        · exact .inr (.inl h1)
        · by_cases e : j = k
          · subst e; exact .inl h4
          · exact .inr (.inr ⟨j, h1, by omega, h3, h4⟩)

theorem getD_inj (hnd : is.Nodup) {i j : Nat} (hi : i < is.length) (hj : j < is.length) (e : is.getD i 0 = is.getD j 0) : i = j := by
  have e' : is[i] = is[j] := by simpa [hi, hj] using e
  exact nodup_inj hnd hi hj e'

/-- a place that comes is new -/
theorem new_place (B : Base l is t p q r) (hnd : is.Nodup) {k : Nat} (hk : k < is.length) (h2 : ¬ (k < 2 ∨ k = t)) : ((is.getD k 0 : Nat) : Int) ∉ sAt is t p q r k := by
  rw [mem_sAt B k (by omega)]
  obtain ⟨t2, tl, _⟩ := B.off
  rintro (h | ⟨j, h1, h3, h4, h5⟩)
  · have hp : (is.getD k 0 = is.getD 0 0 ∨ is.getD k 0 = is.getD 1 0 ∨ is.getD k 0 = is.getD t 0) := by
      rcases B.pqr with ⟨_, rfl, rfl, rfl⟩ | ⟨_, rfl, rfl, rfl⟩ <;> omega
    rcases hp with e | e | e
    · have := getD_inj hnd hk (by omega) e; omega
    · have := getD_inj hnd hk (by omega) e; omega
    · have := getD_inj hnd hk tl e; omega
  · have := getD_inj hnd hk (by omega) (by omega : is.getD k 0 = is.getD j 0); omega

theorem net_at (hio : InOrder l is) (hnd : l.Nodup) (hn : AllNear l) (B : Base l is t p q r) : ∀ k, k ≤ is.length → NetOf (pOf l) (sAt is t p q r k) p q r (trAt l is t p q r k) ∧ (sAt is t p q r k).Nodup ∧ (∀ i ∈ sAt is t p q r k, 0 ≤ i ∧ i < l.length) := by
  have near : ∀ m, m < l.length → NearP (pOf l m) := fun m hm => by obtain ⟨a1, a2, a3, a4⟩ := hn m hm; exact ⟨a1, a2, a3, a4⟩
  have lt := hio.lt
  obtain ⟨mp, mq, mr⟩ := B.mems
  have hin : is.Nodup := hio.nodup
  intro k
  induction k with
  | zero =>
    intro _
    have N := NetOf.start (P := pOf l) (a := p) (b := q) (c := r) (by omega) (by omega) (by omega) B.sd (near _ (lt _ mp)) (near _ (lt _ mq)) (near _ (lt _ mr))
    refine ⟨N, ?_, ?_⟩
    · have h1 : (p : Int) ≠ q := fun e => by have := B.sd; have e' : p = q := (by omega); subst e'; unfold Go.Proofs.YtgpapegpdfonpaaGreatDoor.sd at this; grind
      have h2 : (p : Int) ≠ r := fun e => by have := B.sd; have e' : p = r := (by omega); subst e'; unfold Go.Proofs.YtgpapegpdfonpaaGreatDoor.sd at this; grind
      have h3 : (q : Int) ≠ r := fun e => by have := B.sd; have e' : q = r := (by omega); subst e'; unfold Go.Proofs.YtgpapegpdfonpaaGreatDoor.sd at this; grind
      simp [sAt, h1, h2, h3]
    · intro i hi
      have := lt _ mp; have := lt _ mq; have := lt _ mr
      simp [sAt] at hi; omega
  | succ k ih =>
    intro hk
    obtain ⟨N, hns, hr⟩ := ih (by omega)
    by_cases h2 : k < 2 ∨ k = t
    · have e1 : sAt is t p q r (k + 1) = sAt is t p q r k := if_pos h2
      have e2 : trAt l is t p q r (k + 1) = trAt l is t p q r k := if_pos h2
      rw [e1, e2]; exact ⟨N, hns, hr⟩
    · have hnew := new_place B hin (by omega) h2
      have hkl := lt _ (mem_getD (is := is) (show k < is.length by omega))
      have e1 : sAt is t p q r (k + 1) = ((is.getD k 0 : Nat) : Int) :: sAt is t p q r k := if_neg h2
      have e2 : trAt l is t p q r (k + 1) = addTr (VV (pOf l) p q r) (trAt l is t p q r k) (is.getD k 0 : Nat) := if_neg h2
      rw [e1, e2]
      refine ⟨N.add hnew (by omega) (near _ hkl) ?_, List.nodup_cons.2 ⟨hnew, hns⟩, ?_⟩
      · intro i hi e
        have hi' := hr i hi
        have : i.toNat = is.getD k 0 := ptAt_inj hnd (by omega) hkl e
        exact hnew (by rw [← this]; rw [Int.toNat_of_nonneg hi'.1]; exact hi)
      · intro i hi
        rcases List.mem_cons.1 hi with rfl | hi
        · omega
        · exact hr i hi

theorem mem_all (hio : InOrder l is) (B : Base l is t p q r) (i : Int) : i ∈ sAt is t p q r is.length ↔ 0 ≤ i ∧ i < l.length := by
  rw [mem_sAt B _ (Nat.le_refl _)]
  obtain ⟨mp, mq, mr⟩ := B.mems
  have lt := hio.lt
  obtain ⟨t2, tl, _⟩ := B.off
  constructor
  · rintro (h | ⟨j, h1, h2, h3, h4⟩)
    · have := lt _ mp; have := lt _ mq; have := lt _ mr; omega
    · have := lt _ (mem_getD h2); omega
  · rintro ⟨h1, h2⟩
    have hm : i.toNat ∈ is := hio.perm.mem_iff.2 (List.mem_range.2 (by omega))
    obtain ⟨j, hj, e⟩ := List.getElem_of_mem hm
    have e' : i = (is.getD j 0 : Nat) := by simp [hj, e]; omega
    by_cases k : 2 ≤ j ∧ j ≠ t
    · exact .inr ⟨j, k.1, hj, k.2, e'⟩
    · left
      have hp : (is.getD j 0 = is.getD 0 0 ∨ is.getD j 0 = is.getD 1 0 ∨ is.getD j 0 = is.getD t 0) := by
        have : j = 0 ∨ j = 1 ∨ j = t := by omega
        rcases this with rfl | rfl | rfl
        · exact .inl rfl
        · exact .inr (.inl rfl)
        · exact .inr (.inr rfl)
      rcases B.pqr with ⟨_, rfl, rfl, rfl⟩ | ⟨_, rfl, rfl, rfl⟩ <;> omega
end

/-- what is told -/
def TriSpec (l : List Pt) (ts : List T3) : Prop := ∃ is, InOrder l is ∧ ((AllOn l is ∧ ts = []) ∨ ∃ t p q r, Base l is t p q r ∧ (∀ x y z, (x, y, z) ∈ ts ↔ trAt l is t p q r is.length x y z ∧ 0 ≤ x ∧ x < y ∧ x < z) ∧ ts.Pairwise t3lt)

theorem t3_ext : ∀ {l m : List T3}, l.Pairwise t3lt → m.Pairwise t3lt → (∀ x, x ∈ l ↔ x ∈ m) → l = m
  | [], [], _, _, _ => rfl
  | [], b :: m, _, _, h => by have := (h b).2 (by simp); simp at this
  | a :: l, [], _, _, h => by have := (h a).1 (by simp); simp at this
  | a :: l, b :: m, hl, hm, h => by
    have h1 := List.pairwise_cons.1 hl
    have h2 := List.pairwise_cons.1 hm
    have hab : a = b := by
      have ha : a ∈ b :: m := (h a).1 (by simp)
      have hb : b ∈ a :: l := (h b).2 (by simp)
      rcases List.mem_cons.1 ha with e | ha
      · exact e
      · rcases List.mem_cons.1 hb with e | hb
        · exact e.symm
        · exact absurd (t3lt_trans (h1.1 b hb) (h2.1 a ha)) (t3lt_irrefl _)
    subst hab
    have : l = m := t3_ext h1.2 h2.2 (fun x => by
      constructor
      · intro hx
        rcases List.mem_cons.1 ((h x).1 (by simp [hx])) with e | e
        · subst e; exact absurd (h1.1 x hx) (t3lt_irrefl _)
        · exact e
      · intro hx
        rcases List.mem_cons.1 ((h x).2 (by simp [hx])) with e | e
        · subst e; exact absurd (h2.1 x hx) (t3lt_irrefl _)
        · exact e)
    rw [this]

theorem order_unique {l : List Pt} {is is' : List Nat} (hnd : l.Nodup) (h : InOrder l is) (h' : InOrder l is') : is = is' := by
  have e : is.map (ptAt l) = is'.map (ptAt l) := ordered_ext (h.ordered_of hnd) (h'.ordered_of hnd) (h.pts.trans h'.pts.symm)
  apply List.ext_getElem
  · rw [h.len, h'.len]
  · intro i h1 h2
    have : (is.map (ptAt l))[i]'(by simpa using h1) = (is'.map (ptAt l))[i]'(by simpa using h2) := by simp only [e]
    simp only [List.getElem_map] at this
    exact ptAt_inj hnd (h.lt _ (List.getElem_mem h1)) (h'.lt _ (List.getElem_mem h2)) this

theorem TriSpec.unique {l : List Pt} (hnd : l.Nodup) {ts us : List T3} (h : TriSpec l ts) (k : TriSpec l us) : ts = us := by
  obtain ⟨is, hio, h⟩ := h
  obtain ⟨is', hio', k⟩ := k
  have e := order_unique hnd hio hio'
  subst e
  rcases h with ⟨h1, rfl⟩ | ⟨t, p, q, r, B, hm, hp⟩ <;> rcases k with ⟨k1, rfl⟩ | ⟨t', p', q', r', B', km, kp⟩
  · rfl
  · exact absurd (h1 t' B'.off.1 B'.off.2.1) B'.off.2.2.1
  · exact absurd (k1 t B.off.1 B.off.2.1) B.off.2.2.1
  · have et : t = t' := by
      rcases Nat.lt_trichotomy t t' with h | h | h
      · exact absurd (B'.off.2.2.2 t B.off.1 h) B.off.2.2.1
      · exact h
      · exact absurd (B.off.2.2.2 t' B'.off.1 h) B'.off.2.2.1
    subst et
    have epqr : p = p' ∧ q = q' ∧ r = r' := by
      rcases B.pqr with ⟨c, rfl, rfl, rfl⟩ | ⟨c, rfl, rfl, rfl⟩ <;> rcases B'.pqr with ⟨c', rfl, rfl, rfl⟩ | ⟨c', rfl, rfl, rfl⟩ <;> first | exact ⟨rfl, rfl, rfl⟩ | (exfalso; omega)
    obtain ⟨rfl, rfl, rfl⟩ := epqr
    exact t3_ext hp kp (fun ⟨x, y, z⟩ => (hm x y z).trans (km x y z).symm)
end Go.Proofs.YtgpapegpdfonpaaGreatDoor
