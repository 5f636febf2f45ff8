/-
  Points joined to triangles, one after the other.
  Triangles, Triangulate.
  Triangulate.
-/
import Derived.Test.YtgpapegpdfonpaaGreatDoorJoinHI
import Derived.Test.YtgpapegpdfonpaaGreatDoorSidesMath
set_option linter.unusedVariables false
set_option linter.unusedSimpArgs false
namespace Go.Proofs.YtgpapegpdfonpaaGreatDoor
open Go.RowKit Go.Maps
def trAt (l : List Pt) (is : List Nat) (t p q r : Nat) : Nat → (Int → Int → Int → Prop)
 | 0 => firstTr p q r
 | k + 1 => if k < 2 ∨ k = t then trAt l is t p q r k else addTr (VV (pOf l) p q r) (trAt l is t p q r k) (is.getD k 0 : Nat)
def sAt (is : List Nat) (t p q r : Nat) : Nat → List Int
 | 0 => [(p : Int), q, r]
 | k + 1 => if k < 2 ∨ k = t then sAt is t p q r k else ((is.getD k 0 : Nat) : Int) :: sAt is t p q r k
structure Base (l : List Pt) (is : List Nat) (t p q r : Nat) : Prop where
 off : FirstOff l is t
 pqr : (askS l (is.getD 0 0) (is.getD 1 0) (is.getD t 0) < 0 ∧ p = is.getD 0 0 ∧ q = is.getD t 0 ∧ r = is.getD 1 0) ∨ (0 < askS l (is.getD 0 0) (is.getD 1 0) (is.getD t 0) ∧ p = is.getD 0 0 ∧ q = is.getD 1 0 ∧ r = is.getD t 0)
section
variable {l : List Pt} {is : List Nat} {t p q r : Nat}
theorem base_ex (h : FirstOff l is t) : ∃ p q r, Base l is t p q r := by
 rcases Int.lt_or_le (askS l (is.getD 0 0) (is.getD 1 0) (is.getD t 0)) 0 with k | k
 ·exact ⟨_, _, _, h, .inl ⟨k, rfl, rfl, rfl⟩⟩
 ·exact ⟨_, _, _, h, .inr ⟨by have := h.2.2.1; omega, rfl, rfl, rfl⟩⟩
theorem Base.mems (B : Base l is t p q r) : p ∈ is ∧ q ∈ is ∧ r ∈ is := by
 obtain ⟨h2, ht, _⟩ := B.off
 have m0 := mem_getD (is := is) (show 0 < is.length by omega)
 have m1 := mem_getD (is := is) (show 1 < is.length by omega)
 have mt := mem_getD ht
 rcases B.pqr with ⟨_, rfl, rfl, rfl⟩ | ⟨_, rfl, rfl, rfl⟩
 ·exact ⟨m0, mt, m1⟩
 ·exact ⟨m0, m1, mt⟩
theorem Base.sd (B : Base l is t p q r) : 0 < sd (ptAt l p) (ptAt l q) (ptAt l r) := by
 rcases B.pqr with ⟨h, rfl, rfl, rfl⟩ | ⟨h, rfl, rfl, rfl⟩
 ·rw [askS_sd] at h
  have e : Go.Proofs.YtgpapegpdfonpaaGreatDoor.sd (ptAt l (is.getD 0 0)) (ptAt l (is.getD t 0)) (ptAt l (is.getD 1 0)) = - Go.Proofs.YtgpapegpdfonpaaGreatDoor.sd (ptAt l (is.getD 0 0)) (ptAt l (is.getD 1 0)) (ptAt l (is.getD t 0)) := by unfold Go.Proofs.YtgpapegpdfonpaaGreatDoor.sd; grind
  rw [e]
  rcases Int.lt_or_le (Go.Proofs.YtgpapegpdfonpaaGreatDoor.sd (ptAt l (is.getD 0 0)) (ptAt l (is.getD 1 0)) (ptAt l (is.getD t 0))) 0 with k | k
  ·omega
  ·rcases Int.lt_or_le 0 (Go.Proofs.YtgpapegpdfonpaaGreatDoor.sd (ptAt l (is.getD 0 0)) (ptAt l (is.getD 1 0)) (ptAt l (is.getD t 0))) with k' | k'
   ·rw [sg_one k'] at h; omega
   ·rw [(sg_zero_iff _).2 (by omega)] at h; omega
 ·rw [askS_sd] at h
  exact (sg_pos_iff _).1 h
theorem mem_sAt (B : Base l is t p q r) : ∀ k, k ≤ is.length → ∀ i : Int, i ∈ sAt is t p q r k ↔ ((i = p ∨ i = q ∨ i = r) ∨ ∃ j, 2 ≤ j ∧ j < k ∧ j ≠ t ∧ i = (is.getD j 0 : Nat)) := by
 intro k
 induction k with
 | zero => intro _ i; simp [sAt]
 | succ k ih =>
  intro hk i
  have ih := ih (by omega) i
  unfold sAt
  split
  ·rename_i h
   rw [ih]
   constructor
   ·rintro (h1 | ⟨j, h1, h2, h3, h4⟩)
    ·exact .inl h1
    ·exact .inr ⟨j, h1, by omega, h3, h4⟩
   ·rintro (h1 | ⟨j, h1, h2, h3, h4⟩)
    ·exact .inl h1
    ·exact .inr ⟨j, h1, by omega, h3, h4⟩
  ·rename_i h
   rw [List.mem_cons, ih]
   constructor
   ·rintro (h1 | h1 | ⟨j, h1, h2, h3, h4⟩)
    ·exact .inr ⟨k, by omega, by omega, by omega, h1⟩
    ·exact .inl h1
    ·exact .inr ⟨j, h1, by omega, h3, h4⟩
   ·rintro (h1 | ⟨j, h1, h2, h3, h4⟩)
    ·exact .inr (.inl h1)
    ·by_cases e : j = k
     ·subst e; exact .inl h4
     ·exact .inr (.inr ⟨j, h1, by omega, h3, h4⟩)
theorem getD_inj (hnd : is.Nodup) {i j : Nat} (hi : i < is.length) (hj : j < is.length) (e : is.getD i 0 = is.getD j 0) : i = j := by
 have e' : is[i] = is[j] := by simpa [hi, hj] using e
 exact nodup_inj hnd hi hj e'
theorem new_place (B : Base l is t p q r) (hnd : is.Nodup) {k : Nat} (hk : k < is.length) (h2 : ¬ (k < 2 ∨ k = t)) : ((is.getD k 0 : Nat) : Int) ∉ sAt is t p q r k := by
 rw [mem_sAt B k (by omega)]
 obtain ⟨t2, tl, _⟩ := B.off
 rintro (h | ⟨j, h1, h3, h4, h5⟩)
 ·have hp : (is.getD k 0 = is.getD 0 0 ∨ is.getD k 0 = is.getD 1 0 ∨ is.getD k 0 = is.getD t 0) := by
   rcases B.pqr with ⟨_, rfl, rfl, rfl⟩ | ⟨_, rfl, rfl, rfl⟩ <;> omega
  rcases hp with e | e | e
  ·have := getD_inj hnd hk (by omega) e; omega
  ·have := getD_inj hnd hk (by omega) e; omega
  ·have := getD_inj hnd hk tl e; omega
 ·have := getD_inj hnd hk (by omega) (by omega : is.getD k 0 = is.getD j 0); omega
theorem net_at (hio : InOrder l is) (hnd : l.Nodup) (hn : AllNear l) (B : Base l is t p q r) : ∀ k, k ≤ is.length → NetOf (pOf l) (sAt is t p q r k) p q r (trAt l is t p q r k) ∧ (sAt is t p q r k).Nodup ∧ (∀ i ∈ sAt is t p q r k, 0 ≤ i ∧ i < l.length) := by
 have near : ∀ m, m < l.length → NearP (pOf l m) := fun m hm => by obtain ⟨a1, a2, a3, a4⟩ := hn m hm; exact ⟨a1, a2, a3, a4⟩
 have lt := hio.lt
 obtain ⟨mp, mq, mr⟩ := B.mems
 have hin : is.Nodup := hio.nodup
 intro k
 induction k with
 | zero =>
  intro _
  have N := NetOf.start (P := pOf l) (a := p) (b := q) (c := r) (by omega) (by omega) (by omega) B.sd (near _ (lt _ mp)) (near _ (lt _ mq)) (near _ (lt _ mr))
  refine ⟨N, ?_, ?_⟩
  ·have h1 : (p : Int) ≠ q := fun e => by have := B.sd; have e' : p = q := (by omega); subst e'; unfold Go.Proofs.YtgpapegpdfonpaaGreatDoor.sd at this; grind
   have h2 : (p : Int) ≠ r := fun e => by have := B.sd; have e' : p = r := (by omega); subst e'; unfold Go.Proofs.YtgpapegpdfonpaaGreatDoor.sd at this; grind
   have h3 : (q : Int) ≠ r := fun e => by have := B.sd; have e' : q = r := (by omega); subst e'; unfold Go.Proofs.YtgpapegpdfonpaaGreatDoor.sd at this; grind
   simp [sAt, h1, h2, h3]
  ·intro i hi
   have := lt _ mp; have := lt _ mq; have := lt _ mr
   simp [sAt] at hi; omega
 | succ k ih =>
  intro hk
  obtain ⟨N, hns, hr⟩ := ih (by omega)
  by_cases h2 : k < 2 ∨ k = t
  ·have e1 : sAt is t p q r (k + 1) = sAt is t p q r k := if_pos h2
   have e2 : trAt l is t p q r (k + 1) = trAt l is t p q r k := if_pos h2
   rw [e1, e2]; exact ⟨N, hns, hr⟩
  ·have hnew := new_place B hin (by omega) h2
   have hkl := lt _ (mem_getD (is := is) (show k < is.length by omega))
   have e1 : sAt is t p q r (k + 1) = ((is.getD k 0 : Nat) : Int) :: sAt is t p q r k := if_neg h2
   have e2 : trAt l is t p q r (k + 1) = addTr (VV (pOf l) p q r) (trAt l is t p q r k) (is.getD k 0 : Nat) := if_neg h2
   rw [e1, e2]
   refine ⟨N.add hnew (by omega) (near _ hkl) ?_, List.nodup_cons.2 ⟨hnew, hns⟩, ?_⟩
   ·intro i hi e
    have hi' := hr i hi
    have : i.toNat = is.getD k 0 := ptAt_inj hnd (by omega) hkl e
    exact hnew (by rw [← this]; rw [Int.toNat_of_nonneg hi'.1]; exact hi)
   ·intro i hi
    rcases List.mem_cons.1 hi with rfl | hi
    ·omega
    ·exact hr i hi
theorem mem_all (hio : InOrder l is) (B : Base l is t p q r) (i : Int) : i ∈ sAt is t p q r is.length ↔ 0 ≤ i ∧ i < l.length := by
 rw [mem_sAt B _ (Nat.le_refl _)]
 obtain ⟨mp, mq, mr⟩ := B.mems
 have lt := hio.lt
 obtain ⟨t2, tl, _⟩ := B.off
 constructor
 ·rintro (h | ⟨j, h1, h2, h3, h4⟩)
  ·have := lt _ mp; have := lt _ mq; have := lt _ mr; omega
  ·have := lt _ (mem_getD h2); omega
 ·rintro ⟨h1, h2⟩
  have hm : i.toNat ∈ is := hio.perm.mem_iff.2 (List.mem_range.2 (by omega))
  obtain ⟨j, hj, e⟩ := List.getElem_of_mem hm
  have e' : i = (is.getD j 0 : Nat) := by simp [hj, e]; omega
  by_cases k : 2 ≤ j ∧ j ≠ t
  ·exact .inr ⟨j, k.1, hj, k.2, e'⟩
  ·left
   have hp : (is.getD j 0 = is.getD 0 0 ∨ is.getD j 0 = is.getD 1 0 ∨ is.getD j 0 = is.getD t 0) := by
    have : j = 0 ∨ j = 1 ∨ j = t := by omega
    rcases this with rfl | rfl | rfl
    ·exact .inl rfl
    ·exact .inr (.inl rfl)
    ·exact .inr (.inr rfl)
   rcases B.pqr with ⟨_, rfl, rfl, rfl⟩ | ⟨_, rfl, rfl, rfl⟩ <;> omega
end
def TriSpec (l : List Pt) (ts : List T3) : Prop := ∃ is, InOrder l is ∧ ((AllOn l is ∧ ts = []) ∨ ∃ t p q r, Base l is t p q r ∧ (∀ x y z, (x, y, z) ∈ ts ↔ trAt l is t p q r is.length x y z ∧ 0 ≤ x ∧ x < y ∧ x < z) ∧ ts.Pairwise t3lt)
theorem t3_ext : ∀ {l m : List T3}, l.Pairwise t3lt → m.Pairwise t3lt → (∀ x, x ∈ l ↔ x ∈ m) → l = m
 | [], [], _, _, _ => rfl
 | [], b :: m, _, _, h => by have := (h b).2 (by simp); simp at this
 | a :: l, [], _, _, h => by have := (h a).1 (by simp); simp at this
 | a :: l, b :: m, hl, hm, h => by
  have h1 := List.pairwise_cons.1 hl
  have h2 := List.pairwise_cons.1 hm
  have hab : a = b := by
   have ha : a ∈ b :: m := (h a).1 (by simp)
   have hb : b ∈ a :: l := (h b).2 (by simp)
   rcases List.mem_cons.1 ha with e | ha
   ·exact e
   ·rcases List.mem_cons.1 hb with e | hb
    ·exact e.symm
    ·exact absurd (t3lt_trans (h1.1 b hb) (h2.1 a ha)) (t3lt_irrefl _)
  subst hab
  have : l = m := t3_ext h1.2 h2.2 (fun x => by
    constructor
    · intro hx
      rcases List.mem_cons.1 ((h x).1 (by simp [hx])) with e | e
      · subst e; exact absurd (h1.1 x hx) (t3lt_irrefl _)
      · exact e
    · intro hx
      rcases List.mem_cons.1 ((h x).2 (by simp [hx])) with e | e
      · subst e; exact absurd (h2.1 x hx) (t3lt_irrefl _)
      · exact e)
  rw [this]
theorem order_unique {l : List Pt} {is is' : List Nat} (hnd : l.Nodup) (h : InOrder l is) (h' : InOrder l is') : is = is' := by
 have e : is.map (ptAt l) = is'.map (ptAt l) := ordered_ext (h.ordered_of hnd) (h'.ordered_of hnd) (h.pts.trans h'.pts.symm)
 apply List.ext_getElem
 ·rw [h.len, h'.len]
 ·intro i h1 h2
  have : (is.map (ptAt l))[i]'(by simpa using h1) = (is'.map (ptAt l))[i]'(by simpa using h2) := by simp only [e]
  simp only [List.getElem_map] at this
  exact ptAt_inj hnd (h.lt _ (List.getElem_mem h1)) (h'.lt _ (List.getElem_mem h2)) this
theorem TriSpec.unique {l : List Pt} (hnd : l.Nodup) {ts us : List T3} (h : TriSpec l ts) (k : TriSpec l us) : ts = us := by
 obtain ⟨is, hio, h⟩ := h
 obtain ⟨is', hio', k⟩ := k
 have e := order_unique hnd hio hio'
 subst e
 rcases h with ⟨h1, rfl⟩ | ⟨t, p, q, r, B, hm, hp⟩ <;> rcases k with ⟨k1, rfl⟩ | ⟨t', p', q', r', B', km, kp⟩
 ·rfl
 ·exact absurd (h1 t' B'.off.1 B'.off.2.1) B'.off.2.2.1
 ·exact absurd (k1 t B.off.1 B.off.2.1) B.off.2.2.1
 ·have et : t = t' := by
   rcases Nat.lt_trichotomy t t' with h | h | h
   ·exact absurd (B'.off.2.2.2 t B.off.1 h) B.off.2.2.1
   ·exact h
   ·exact absurd (B.off.2.2.2 t' B'.off.1 h) B'.off.2.2.1
  subst et
  have epqr : p = p' ∧ q = q' ∧ r = r' := by
   rcases B.pqr with ⟨c, rfl, rfl, rfl⟩ | ⟨c, rfl, rfl, rfl⟩ <;> rcases B'.pqr with ⟨c', rfl, rfl, rfl⟩ | ⟨c', rfl, rfl, rfl⟩ <;> first | exact ⟨rfl, rfl, rfl⟩ | (exfalso; omega)
  obtain ⟨rfl, rfl, rfl⟩ := epqr
  exact t3_ext hp kp (fun ⟨x, y, z⟩ => (hm x y z).trans (km x y z).symm)
end Go.Proofs.YtgpapegpdfonpaaGreatDoor

namespace Go.Proofs.YtgpapegpdfonpaaGreatDoor
open Go.RowKit Go.Maps
set_option maxRecDepth 100000 in
set_option maxHeartbeats 1000000 in
theorem offLine_none (B g ocap : Nat) (w : World) : Calls Tryz.prog 67 #[.slice (some ⟨g, 0, none⟩) 0 ocap, askV B] w fun e w' => e = .returned (iv (-1)) ∧ RowKit.Below w.heap.size w w' := by
 go_enter Tryz.func67, Tryz.ntmps67
 go_wp2
 refine wp_loop_rounds 1 ?_
 rw [rounds_succ]
 go_wp2
 go_ret
 exact ⟨rfl, below1 _ _⟩
set_option maxRecDepth 100000 in
set_option maxHeartbeats 1000000 in
theorem tris_none (B g ocap : Nat) (w : World) : Calls Tryz.prog 27 #[.slice (some ⟨g, 0, none⟩) 0 ocap, askV B] w fun e w' => e = .returned (.slice none 0 0) ∧ RowKit.Below w.heap.size w w' := by
 go_enter Tryz.func27, Tryz.ntmps27
 go_wp2_with (go_at_call 67; refine (offLine_none _ _ _ _).mono ?_; rintro e w1 ⟨rfl, hb1⟩)
 go_ret
 exact ⟨rfl, (below1 _ _).trans (hb1.mono (by simp))⟩
theorem ownS_mono {w : World} {a b n size : Nat} {e : TypeId} {xs : List Value} {v : Value} (h : w.ownsRow a e size v n xs) (hb : b ≤ a) : w.ownsRow b e size v n xs := by
 obtain ⟨hl, h⟩ := h
 refine ⟨hl, ?_⟩
 rcases h with h | ⟨g, cap, cur, hv, hg, r⟩
 ·exact .inl h
 ·exact .inr ⟨g, cap, cur, hv, Nat.le_trans hb hg, r⟩
theorem g2_below {w0 w w' : World} {A H : Nat} (hb : RowKit.Below w0.heap.size w0 w) (g : G2 w w' A H) (hA : w0.heap.size ≤ A) (hH : w0.heap.size ≤ H) : RowKit.Below w0.heap.size w0 w' :=
 ⟨g.os.trans hb.os, g.tape.trans hb.tape, g.output.trans hb.output, Nat.le_trans hb.size g.size, fun i hi => (g.block i (Nat.lt_of_lt_of_le hi hb.size) (by omega) (by omega)).trans (hb.block i hi)⟩
set_option maxRecDepth 100000 in
set_option maxHeartbeats 4000000 in
theorem tris_any (B b off cap g ocap : Nat) (l : List Pt) (is : List Nat) (w : World) (hl : l.length ≤ 60) (hio : InOrder l is) (hnd : l.Nodup) (A0 : AskAt w B b off cap l) (hn : AllNear l)
  (hg : g < w.heap.size) (his : NatsAt w g 0 is) :
  Calls Tryz.prog 27 #[.slice (some ⟨g, 0, none⟩) is.length ocap, askV B] w fun e w' =>
   ∃ v ts, e = .returned v ∧ w'.ownsRow w.heap.size 53 3 v ts.length (flatT ts) ∧ TriSpec l ts ∧ ts.length ≤ 4000 ∧ RowKit.Below w.heap.size w w' := by
 have hlen : is.length ≤ 60 := by rw [hio.len]; exact hl
 have hi := hio.lt
 have hb1 := below1 w (.cells #[.func (.func 34) #[] #[.pointer (some ⟨B, 0, none⟩)], .func (.func 36) #[] #[.pointer (some ⟨B, 0, none⟩)]] 60)
 have k0 : (w.alloc (.cells #[.func (.func 34) #[] #[.pointer (some ⟨B, 0, none⟩)], .func (.func 36) #[] #[.pointer (some ⟨B, 0, none⟩)]] 60)).cell? ⟨w.heap.size, 0, none⟩ = some (.func (.func 34) #[] #[.pointer (some ⟨B, 0, none⟩)]) := by rw [World.cell?_alloc_at _ _ _ _ rfl]; rfl
 have k1 : (w.alloc (.cells #[.func (.func 34) #[] #[.pointer (some ⟨B, 0, none⟩)], .func (.func 36) #[] #[.pointer (some ⟨B, 0, none⟩)]] 60)).cell? ⟨w.heap.size, 1, none⟩ = some (.func (.func 36) #[] #[.pointer (some ⟨B, 0, none⟩)]) := by rw [World.cell?_alloc_at _ _ _ _ rfl]; rfl
 have A1 := A0.below hb1 (Nat.le_refl _)
 have his1 := his.below hb1 hg
 have hg1 : g < (w.alloc (.cells #[.func (.func 34) #[] #[.pointer (some ⟨B, 0, none⟩)], .func (.func 36) #[] #[.pointer (some ⟨B, 0, none⟩)]] 60)).heap.size := by simp; omega
 have hoff := offLine_any B b off cap g ocap l is _ hl hi hlen A1 hn hg1 his1
 have hoff2 : Calls Tryz.prog 67 #[.slice (some ⟨g, 0, none⟩) is.length ocap, askV B] (w.alloc (.cells #[.func (.func 34) #[] #[.pointer (some ⟨B, 0, none⟩)], .func (.func 36) #[] #[.pointer (some ⟨B, 0, none⟩)]] 60)) fun e w' =>
   ∃ r : Int, e = .returned (.int .i64 r) ∧ ((∃ t : Nat, r = t ∧ FirstOff l is t) ∨ (r = -1 ∧ AllOn l is)) ∧ RowKit.Below w.heap.size w w' ∧ w'.cell? ⟨w.heap.size, 0, none⟩ = some (.func (.func 34) #[] #[.pointer (some ⟨B, 0, none⟩)]) ∧ w'.cell? ⟨w.heap.size, 1, none⟩ = some (.func (.func 36) #[] #[.pointer (some ⟨B, 0, none⟩)]) := by
  refine hoff.mono (fun e w' h => ?_)
  have r1 := hb1.trans (h.2.mono hb1.size)
  have r2 := (h.2.cell (p := ⟨w.heap.size, 0, none⟩) (by simp)).trans k0
  have r3 := (h.2.cell (p := ⟨w.heap.size, 1, none⟩) (by simp)).trans k1
  rcases h.1 with ⟨t, he, ht⟩ | ⟨he, ht⟩
  ·exact ⟨t, he, .inl ⟨t, rfl, ht⟩, r1, r2, r3⟩
  ·exact ⟨-1, he, .inr ⟨rfl, ht⟩, r1, r2, r3⟩
 clear hoff k0 k1 A1 his1 hg1 hb1
 go_enter Tryz.func27, Tryz.ntmps27
 go_upto_region 2 with (go_at_call 67; refine hoff2.mono ?_; rintro e w1 ⟨rr, rfl, hr, hb2, q0, q1⟩)
 clear hoff2
 rcases hr with ⟨t, rfl, hfo⟩ | ⟨rfl, hall⟩
 ·obtain ⟨p, q, r, BS⟩ := base_ex hfo
  obtain ⟨t2, tl, _, _⟩ := hfo
  obtain ⟨mp, mq, mr⟩ := BS.mems
  have A2 := A0.below hb2 (Nat.le_refl _)
  have m0 := hi _ (mem_getD (is := is) (show 0 < is.length by omega))
  have m1 := hi _ (mem_getD (is := is) (show 1 < is.length by omega))
  have mt := hi _ (mem_getD tl)
  have FN := firstNet_any B b off cap l (is.getD 0 0) (is.getD 1 0) (is.getD t 0) w1.drew hl m0 m1 mt A2.drew hn p q r (hi _ mp) (hi _ mq) (hi _ mr) BS.sd BS.pqr
  have NA := net_at hio hnd hn BS
  have c0 : w1.cell? ⟨g, 0, none⟩ = some (.int .i64 (is.getD 0 0 : Nat)) := by rw [hb2.cell (p := ⟨g, 0, none⟩) hg]; simpa using his 0 (by omega)
  have c1 : w1.cell? ⟨g, 1, none⟩ = some (.int .i64 (is.getD 1 0 : Nat)) := by rw [hb2.cell (p := ⟨g, 1, none⟩) hg]; simpa using his 1 (by omega)
  have ct : w1.cell? ⟨g, t, none⟩ = some (.int .i64 (is.getD t 0 : Nat)) := by rw [hb2.cell (p := ⟨g, t, none⟩) hg]; simpa using his t tl
  have HNA : Hid (∀ k, k ≤ is.length → NetOf (pOf l) (sAt is t p q r k) p q r (trAt l is t p q r k) ∧ (sAt is t p q r k).Nodup ∧ (∀ i ∈ sAt is t p q r k, 0 ≤ i ∧ i < l.length)) := NA
  have HBS : Hid (Base l is t p q r) := BS
  clear NA BS mp mq mr m0 m1 mt
  generalize is.getD 0 0 = i0 at c0 FN
  generalize is.getD 1 0 = i1 at c1 FN
  generalize is.getD t 0 = it at ct FN
  have p0 : 0 < is.length := by omega
  have p1 : (0 : Int) < (is.length : Int) := by omega
  have p2 : (1 : Int) < (is.length : Int) := by omega
  have p3 : (t : Int) < (is.length : Int) := by omega
  have p4 : (0 : Int) ≤ (t : Int) := by omega
  have hk : ∀ w', RowKit.Below w1.drew.heap.size w1.drew w' → w'.cell? ⟨w.heap.size, 0, none⟩ = some (.func (.func 34) #[] #[.pointer (some ⟨B, 0, none⟩)]) ∧ w'.cell? ⟨w.heap.size, 1, none⟩ = some (.func (.func 36) #[] #[.pointer (some ⟨B, 0, none⟩)]) ∧ w'.cell? ⟨g, 0, none⟩ = some (.int .i64 i0) ∧ w'.cell? ⟨g, 1, none⟩ = some (.int .i64 i1) ∧ w'.cell? ⟨g, t, none⟩ = some (.int .i64 it) := fun w' h =>
   ⟨(h.cell (p := ⟨w.heap.size, 0, none⟩) (cell_blk q0)).trans q0, (h.cell (p := ⟨w.heap.size, 1, none⟩) (cell_blk q1)).trans q1, (h.cell (p := ⟨g, 0, none⟩) (cell_blk c0)).trans c0, (h.cell (p := ⟨g, 1, none⟩) (cell_blk c1)).trans c1, (h.cell (p := ⟨g, t, none⟩) (cell_blk ct)).trans ct⟩
  go_wp2_with fail
  go_region_held3 (fun w' => w'.cell? ⟨w.heap.size, 0, none⟩ = some (.func (.func 34) #[] #[.pointer (some ⟨B, 0, none⟩)]) ∧ w'.cell? ⟨w.heap.size, 1, none⟩ = some (.func (.func 36) #[] #[.pointer (some ⟨B, 0, none⟩)]) ∧ w'.cell? ⟨g, 0, none⟩ = some (.int .i64 i0) ∧ w'.cell? ⟨g, 1, none⟩ = some (.int .i64 i1) ∧ w'.cell? ⟨g, t, none⟩ = some (.int .i64 it)) (first | exact ⟨q0, q1, c0, c1, ct⟩ | exact hk _ hb3)
   (first | (go_at_call 68; refine FN.mono ?_; rintro e w' ⟨N, Am, H, rfl, sN, sA, sH, nNA, nNH, nAH, hNet, hmA, hmH, hb3⟩))
  go_wp2
  have hb4 : RowKit.Below w.heap.size w w' := hb2.trans ((below_of_drew hb3).mono hb2.size)
  have hs4 := hb2.size
  have sA' : w.heap.size ≤ Am := Nat.le_trans hs4 sA
  have sH' : w.heap.size ≤ H := Nat.le_trans hs4 sH
  have AD : AddAt w' N B Am H b off cap l := ⟨hNet, A2.below (below_of_drew hb3) (Nat.le_refl _), nNA, nNH, by have := A0.hB; omega, by have := A0.hB; omega, by have := A0.hb; omega, by have := A0.hb; omega, nAH⟩
  clear hk q0 q1 c0 c1 ct FN hb3 hNet
  go_loopw [7] (fun i wr => ∃ k n m g', 2 ≤ k ∧ k ≤ is.length ∧ i = .int .i64 (k : Nat) ∧ n ≤ 4000 ∧ MapIs Tryz.prog 165 wr Am n (fOf (trAt l is t p q r k)) ∧ MapIs Tryz.prog 165 wr H m g' ∧ AddAt wr N B Am H b off cap l ∧ RowKit.Below w.heap.size w wr)
   (fun i _ => 100 - (intOf i).toNat)
  case atStart => exact ⟨2, 12, 0, _, by omega, by omega, rfl, by omega, hmA, hmH, AD, hb4⟩
  case round =>
   clear hmA hmH AD hb4
   obtain ⟨k, n, m, g', hk2, hkl, rfl, hn4, hmA, hmH, AD, hb4⟩ := hrel
   by_cases hlt : k < is.length
   ·have hck : wr.cell? ⟨g, k, none⟩ = some (.int .i64 (is.getD k 0 : Nat)) := by rw [hb4.cell (p := ⟨g, k, none⟩) hg]; simpa using his k hlt
    by_cases hkt : k = t
    ·have hT : trAt l is t p q r (k + 1) = trAt l is t p q r k := if_pos (.inr hkt)
     have HT : Hid (trAt l is t p q r (k + 1) = trAt l is t p q r k) := hT
     clear hT hck
     subst hkt
     go_wp2
     go_roundw
     case rel => exact ⟨k + 1, n, m, g', by omega, by omega, by go_num, hn4, by rw [HT.out]; exact hmA, hmH, AD, hb4⟩
     case measure => simp [intOf]; omega
    ·have hT : trAt l is t p q r (k + 1) = addTr (VV (pOf l) p q r) (trAt l is t p q r k) (is.getD k 0 : Nat) := if_neg (by omega)
     obtain ⟨NO, hns, hrS⟩ := HNA.out k (by omega)
     have hnew := new_place HBS.out hio.nodup hlt (by omega)
     have hkn := hi _ (mem_getD hlt)
     have hkn' : NearP (ptAt l (is.getD k 0)) := by obtain ⟨a1, a2, a3, a4⟩ := hn _ hkn; exact ⟨a1, a2, a3, a4⟩
     have hSl : (sAt is t p q r k).length ≤ 60 := by
      have := len_le (sAt is t p q r k) ((List.range l.length).map (fun n : Nat => (n : Int))) hns (fun i hi => by
        have := hrS i hi
        exact List.mem_map.2 ⟨i.toNat, List.mem_range.2 (by omega), by omega⟩)
      simp at this; omega
     have hadd := add_any NO hrS hSl N B Am H b off cap n m g' (is.getD k 0) wr hkn hnew hkn' (fun i hi e => by
       have hi' := hrS i hi
       have : i.toNat = is.getD k 0 := ptAt_inj hnd (by omega) hkn e
       exact hnew (by rw [← this]; rw [Int.toNat_of_nonneg hi'.1]; exact hi)) hl hn AD hmA hmH (by omega)
     have HT : Hid (trAt l is t p q r (k + 1) = addTr (VV (pOf l) p q r) (trAt l is t p q r k) (is.getD k 0 : Nat)) := hT
     clear hT NO hns hrS hnew hkn hkn' hSl
     generalize hKK : addTr (VV (pOf l) p q r) (trAt l is t p q r k) (is.getD k 0 : Nat) = TK at hadd
     have HKK : Hid (addTr (VV (pOf l) p q r) (trAt l is t p q r k) (is.getD k 0 : Nat) = TK) := hKK
     clear hKK
     generalize is.getD k 0 = ik at hck hadd
     go_wp2_with (go_at_call 69; refine hadd.mono ?_; rintro e w5 ⟨rfl, hm5, ⟨m5, g5, hh5⟩, G5⟩)
     go_roundw
     case rel => exact ⟨k + 1, 4000, m5, g5, by omega, by omega, by go_num, by omega, by rw [HT.out, HKK.out]; exact hm5, hh5, AD.g2 G5, g2_below hb4 G5 sA' sH'⟩
     case measure => simp [intOf]; omega
   ·have hke : k = is.length := by omega
    obtain ⟨NO, hns, hrS⟩ := HNA.out k (by omega)
    have htr := triangles_any N B Am H n (trAt l is t p q r k) wr NO.fnT (fun h => NO.rot h) (fun h => NO.ne12 h) (fun h => by
        rcases NO.lab h with e | e
        · exact i64_of (by omega) (by omega)
        · have := hrS _ e; exact i64_of (by omega) (by omega)) (fun h => by
        rcases NO.lab h with e | e
        · omega
        · have := hrS _ e; omega) AD.net hmA hn4
    have HKE : Hid (k = is.length) := hke
    clear hke NO hns hrS
    go_wp2_with (go_at_call 70; refine htr.mono ?_; rintro e w5 ⟨v, ts, rfl, hown5, hmem5, hsort5, hlen5, hb5⟩)
    go_ret
    refine ⟨v, ts, rfl, ownS_mono hown5 hb4.size, ⟨is, hio, .inr ⟨t, p, q, r, HBS.out, ?_, hsort5⟩⟩, hlen5, hb4.trans (hb5.mono hb4.size)⟩
    rw [← HKE.out]; exact hmem5
 ·go_wp2
  go_ret
  exact ⟨_, [], rfl, World.ownsRow_nil _ _ _ _, ⟨is, hio, .inl ⟨hall, rfl⟩⟩, by simp, hb2⟩
end Go.Proofs.YtgpapegpdfonpaaGreatDoor

namespace Go.Proofs.YtgpapegpdfonpaaGreatDoor
open Go.RowKit Go.Maps
set_option maxHeartbeats 800000 in
theorem triang_many (a : Option Addr) (n cap : Nat) (w : World) (h : 60 < n) :
  Calls Tryz.prog 12 #[.slice a n cap] w fun e w' => e = .returned (.tuple #[.slice none 0 0, .int .i64 2]) ∧ RowKit.Below w.heap.size w w' := by
 go_enter Tryz.func12, Tryz.ntmps12
 go_wp2_with (go_at_call 26; refine (fault_many a n cap _ h).mono ?_; rintro e w1 ⟨rfl, rfl⟩)
 go_ret2
 exact ⟨rfl, RowKit.Below.refl _ _⟩
set_option maxHeartbeats 800000 in
theorem triang_fault (b off cap : Nat) (l : List Pt) (n : Nat) (w : World) (hn : l.length = n + 1) (hl : l.length ≤ 60) (hb : b < w.heap.size) (hp : PtsAt w b off l) (hf : faultN l ≠ 0) :
  Calls Tryz.prog 12 #[.slice (some ⟨b, off, none⟩) l.length cap] w fun e w' => e = .returned (.tuple #[.slice none 0 0, .int .i64 (faultN l)]) ∧ RowKit.Below w.heap.size w w' := by
 have HF := fault_any b off cap l n w hn hl hb hp
 have hf' : (faultN l != 0) = true := by simpa using hf
 clear hn hf
 generalize faultN l = f at *
 go_enter Tryz.func12, Tryz.ntmps12
 go_wp2_with (go_at_call 26; refine HF.mono ?_; rintro e w1 ⟨rfl, hb1⟩)
 go_ret2
 exact ⟨rfl, hb1⟩
set_option maxHeartbeats 800000 in
theorem triang_any (b off cap : Nat) (l : List Pt) (n : Nat) (w : World) (hn : l.length = n + 1) (hb : b < w.heap.size) (hp : PtsAt w b off l) (hf : faultN l = 0) :
  Calls Tryz.prog 12 #[.slice (some ⟨b, off, none⟩) l.length cap] w fun e w' =>
   ∃ v ts, e = .returned (.tuple #[v, .int .i64 0]) ∧ w'.ownsRow w.heap.size 53 3 v ts.length (flatT ts) ∧ TriSpec l ts ∧ ts.length ≤ 4000 ∧ RowKit.Below w.heap.size w w' := by
 obtain ⟨hl, hfar, hnd⟩ := fault_zero hf
 have hnear := near_of_far hfar
 have HF := fault_any b off cap l n w hn hl hb hp
 rw [hf] at HF
 have HO := fun W (hb' : b < W.heap.size) (hp' : PtsAt W b off l) => order_any b off cap l n W hn hl hb' hp'
 have HC : ∀ B g is W, InOrder l is → AskAt W B b off cap l → g < W.heap.size → NatsAt W g 0 is → Calls Tryz.prog 27 #[.slice (some ⟨g, 0, none⟩) l.length l.length, askV B] W _ := fun B g is W hio A hg his => by
  have := tris_any B b off cap g l.length l is W hl hio hnd A hnear hg his
  rw [hio.len] at this
  exact this
 clear hn hf hfar
 go_enter Tryz.func12, Tryz.ntmps12
 go_wp2_with (first
   | (go_at_call 26; refine HF.mono ?_; rintro e w1 ⟨rfl, hb1⟩)
   | (go_at_call 28; refine (HO _ (Nat.lt_of_lt_of_le hb hb1.size) (hp.below hb1 hb)).mono ?_; rintro e w2 ⟨g, is, rfl, hg, hgs, hb2, hns, hfz, hio⟩)
   | (go_at_call 17; refine (askOf_any _ _ _ _).mono ?_; rintro e w3 ⟨B, hB1, hB2, hcB, rfl, hb3⟩
      have hW3 : RowKit.Below w.heap.size w w3 := (hb1.trans (hb2.mono hb1.size)).trans (hb3.mono (hb1.trans (hb2.mono hb1.size)).size)
      have A : AskAt w3 B b off cap l := ⟨hB2, Nat.lt_of_lt_of_le hb hW3.size, hcB, hp.below hW3 hb⟩
      have hns3 := hns.below hb3 hgs
      have hg3 : g < w3.heap.size := Nat.lt_of_lt_of_le hgs hb3.size)
   | (go_at_call 27; refine (HC B g is _ hio A hg3 hns3).mono ?_; rintro e w4 ⟨v, ts, rfl, hown, hspec, hlen, hb4⟩))
 go_ret2
 exact ⟨v, ts, rfl, ownS_mono hown hW3.size, hspec, hlen, hW3.trans (hb4.mono hW3.size)⟩
set_option maxHeartbeats 800000 in
theorem triang_none (a : Option Addr) (cap : Nat) (w : World) :
  Calls Tryz.prog 12 #[.slice a 0 cap] w fun e w' => e = .returned (.tuple #[.slice none 0 0, .int .i64 0]) ∧ RowKit.Below w.heap.size w w' := by
 go_enter Tryz.func12, Tryz.ntmps12
 go_wp2_with (first
   | (go_at_call 26; refine (fault_none a cap _).mono ?_; rintro e w1 ⟨rfl, hb1⟩)
   | (go_at_call 28; refine (order_none a cap _).mono ?_; rintro e w2 ⟨g, rfl, hg, hgs, hb2⟩)
   | (go_at_call 17; refine (askOf_any _ _ _ _).mono ?_; rintro e w3 ⟨B, hB1, hB2, hcB, rfl, hb3⟩
      have hW3 : RowKit.Below w.heap.size w w3 := (hb1.trans (hb2.mono hb1.size)).trans (hb3.mono (hb1.trans (hb2.mono hb1.size)).size))
   | (go_at_call 27; refine (tris_none B g _ _).mono ?_; rintro e w4 ⟨rfl, hb4⟩))
 go_ret2
 exact ⟨rfl, hW3.trans (hb4.mono hW3.size)⟩
end Go.Proofs.YtgpapegpdfonpaaGreatDoor
