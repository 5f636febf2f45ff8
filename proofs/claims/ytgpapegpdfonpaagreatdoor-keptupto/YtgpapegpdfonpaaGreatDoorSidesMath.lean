/-
  The document's own way around points: from a corner on to the point of which no other lies right, of those in one line the farthest.
-/
import Derived.Test.YtgpapegpdfonpaaGreatDoorAroundMath
namespace Go.Proofs.YtgpapegpdfonpaaGreatDoor
set_option linter.unusedVariables false
set_option linter.unusedSimpArgs false

def dst (a b : Pt) : Int := (a.1 - b.1) * (a.1 - b.1) + (a.2 - b.2) * (a.2 - b.2)

/-- does a point take the place of the best so far? -/
def betterB (A B Q : Pt) : Bool := decide (sd A B Q < 0) || (decide (sd A B Q = 0) && decide (dst A B < dst A Q))
def nextBest (l : List Pt) (a : Nat) (b : Option Nat) (i : Nat) : Option Nat :=
  if i = a then b else match b with
    | none => some i
    | some b => if betterB (ptAt l a) (ptAt l b) (ptAt l i) = true then some i else some b
def scan (l : List Pt) (a k : Nat) : Option Nat := (List.range k).foldl (nextBest l a) none
theorem scan_succ (l : List Pt) (a k : Nat) : scan l a (k + 1) = nextBest l a (scan l a k) k := by simp [scan, List.range_succ]

theorem sq_nonneg (x : Int) : 0 ≤ x * x := by
  rcases Int.le_total 0 x with h | h
  · exact Int.mul_nonneg h h
  · have := Int.mul_nonneg (show 0 ≤ -x by omega) (show 0 ≤ -x by omega)
    rwa [Int.neg_mul_neg] at this
theorem sq_pos {x : Int} (h : x ≠ 0) : 0 < x * x := by
  rcases Int.lt_or_gt_of_ne h with h | h
  · have := Int.mul_pos (show 0 < -x by omega) (show 0 < -x by omega)
    rwa [Int.neg_mul_neg] at this
  · exact Int.mul_pos h h

theorem dst_diff (A T Q : Pt) : dst A T - dst A Q = dst T Q - 2 * dt A T Q := by unfold dst dt; grind
theorem dst_nonneg (T Q : Pt) : 0 ≤ dst T Q := by
  unfold dst
  have := sq_nonneg (T.1 - Q.1); have := sq_nonneg (T.2 - Q.2); omega
theorem dst_pos {T Q : Pt} (h : T ≠ Q) : 0 < dst T Q := by
  unfold dst
  have h1 := sq_nonneg (T.1 - Q.1); have h2 := sq_nonneg (T.2 - Q.2)
  by_cases e : T.1 - Q.1 = 0
  · have : T.2 - Q.2 ≠ 0 := fun e2 => h (Prod.ext (by omega) (by omega))
    have := sq_pos this; omega
  · have := sq_pos e; omega
theorem sd_swap2 (a b c : Pt) : sd a c b = - sd a b c := by unfold sd; grind

structure Tgt (l : List Pt) (a t : Nat) : Prop where
  lt : t < l.length
  ne : t ≠ a
  all : ∀ q, q < l.length → 0 ≤ sd (ptAt l a) (ptAt l t) (ptAt l q) ∧ (sd (ptAt l a) (ptAt l t) (ptAt l q) = 0 → dt (ptAt l a) (ptAt l t) (ptAt l q) ≤ 0)

theorem nodup_inj {α : Type} {l : List α} (hnd : l.Nodup) {i j : Nat} (hi : i < l.length) (hj : j < l.length) (h : l[i] = l[j]) : i = j := by
  have hp := List.pairwise_iff_getElem.1 hnd
  rcases Nat.lt_trichotomy i j with hlt | e | hlt
  · exact absurd h (hp i j hi hj hlt)
  · exact e
  · exact absurd h.symm (hp j i hj hi hlt)
theorem ptAt_inj {l : List Pt} (hnd : l.Nodup) {i j : Nat} (hi : i < l.length) (hj : j < l.length) (h : ptAt l i = ptAt l j) : i = j := by
  rw [ptAt_eq, ptAt_eq] at h
  simp [hi, hj] at h
  exact nodup_inj hnd hi hj h

theorem Tgt.stay {l : List Pt} {a t : Nat} (T : Tgt l a t) {q : Nat} (hq : q < l.length) : betterB (ptAt l a) (ptAt l t) (ptAt l q) = false := by
  obtain ⟨h1, h2⟩ := T.all q hq
  unfold betterB
  rw [decide_eq_false (by omega)]
  by_cases h0 : sd (ptAt l a) (ptAt l t) (ptAt l q) = 0
  · have := h2 h0
    have hd := dst_diff (ptAt l a) (ptAt l t) (ptAt l q)
    have := dst_nonneg (ptAt l t) (ptAt l q)
    rw [decide_eq_false (p := dst (ptAt l a) (ptAt l t) < dst (ptAt l a) (ptAt l q)) (by omega)]; simp
  · rw [decide_eq_false h0]; simp
theorem Tgt.take {l : List Pt} {a t : Nat} (T : Tgt l a t) (hnd : l.Nodup) {b : Nat} (hb : b < l.length) (hne : b ≠ t) : betterB (ptAt l a) (ptAt l b) (ptAt l t) = true := by
  obtain ⟨h1, h2⟩ := T.all b hb
  have hs := sd_swap2 (ptAt l a) (ptAt l t) (ptAt l b)
  unfold betterB
  by_cases h0 : sd (ptAt l a) (ptAt l t) (ptAt l b) = 0
  · have := h2 h0
    have hd := dst_diff (ptAt l a) (ptAt l t) (ptAt l b)
    have hp : 0 < dst (ptAt l t) (ptAt l b) := dst_pos fun e => hne (ptAt_inj hnd hb T.lt e.symm)
    rw [decide_eq_true (p := sd (ptAt l a) (ptAt l b) (ptAt l t) = 0) (by omega), decide_eq_true (p := dst (ptAt l a) (ptAt l b) < dst (ptAt l a) (ptAt l t)) (by omega)]; simp
  · rw [decide_eq_true (p := sd (ptAt l a) (ptAt l b) (ptAt l t) < 0) (by omega)]; simp

theorem scan_bd (l : List Pt) (a : Nat) : ∀ k, k ≤ l.length → ∀ b, scan l a k = some b → b ≠ a ∧ b < k := by
  intro k
  induction k with
  | zero => intro _ b h; simp [scan] at h
  | succ k ih =>
    intro hk b h
    rw [scan_succ] at h
    unfold nextBest at h
    split at h
    · have := ih (by omega) b h; omega
    · rename_i hne
      split at h
      · cases h; exact ⟨hne, by omega⟩
      · rename_i b' e
        split at h
        · cases h; exact ⟨hne, by omega⟩
        · cases h
          have := ih (by omega) _ e
          exact ⟨this.1, by omega⟩

theorem scan_tgt {l : List Pt} {a t : Nat} (T : Tgt l a t) (hnd : l.Nodup) : ∀ k, t < k → k ≤ l.length → scan l a k = some t := by
  intro k
  induction k with
  | zero => intro h; omega
  | succ k ih =>
    intro h hk
    rw [scan_succ]
    by_cases htk : t < k
    · rw [ih htk (by omega)]
      unfold nextBest
      split
      · rfl
      · simp only
        rw [T.stay (by omega), if_neg (by simp)]
    · have e : k = t := by omega
      subst e
      unfold nextBest
      rw [if_neg T.ne]
      cases hs : scan l a k with
      | none => rfl
      | some b =>
        have hb := scan_bd l a k (by omega) b hs
        simp only
        rw [T.take hnd (by omega) (by omega), if_pos rfl]

theorem scan_one (l : List Pt) (h : l.length = 1) (a : Nat) (ha : a < l.length) : scan l a l.length = none := by
  rw [h]
  have : a = 0 := by omega
  subst this
  simp [scan, nextBest, List.range_succ]

theorem tgt_of {l : List Pt} {c : List Nat} (A : Arr l c) (hcn : c.Nodup) (h1 : 1 < c.length) {i : Nat} (hi : i < c.length) : Tgt l (c.getD i 0) (c.getD ((i + 1) % c.length) 0) := by
  have hm : (i + 1) % c.length < c.length := Nat.mod_lt _ (by omega)
  refine ⟨A.lt _ hm, ?_, fun q hq => A.edge h1 i hi q hq⟩
  intro e
  have h1' : c.getD i 0 = c[i] := by simp [hi]
  have h2' : c.getD ((i + 1) % c.length) 0 = c[(i + 1) % c.length] := by simp [hm]
  rw [h1', h2'] at e
  have hij := nodup_inj hcn hi hm e.symm
  rcases Nat.lt_or_ge (i + 1) c.length with h | h
  · rw [Nat.mod_eq_of_lt h] at hij; omega
  · have h3 : i + 1 = c.length := by omega
    rw [h3, Nat.mod_self] at hij; omega

theorem cornersN_nodup {l : List Pt} {is : List Nat} (hio : InOrder l is) (hnd : l.Nodup) : (cornersN l is).Nodup := by
  have := (hull_ok (hio.ordered_of hnd)).nodup
  rw [← cornersN_map] at this
  exact List.Pairwise.of_map (ptAt l) (fun a b hne e => hne (by rw [e])) this

instance (a b : Pt) : Decidable (plt a b) := by unfold plt; exact inferInstance
/-- the least so far -/
def leastN (l : List Pt) (k : Nat) : Nat := (List.range' 1 (k - 1)).foldl (fun f i => if decide (plt (ptAt l i) (ptAt l f)) = true then i else f) 0
theorem leastN_one (l : List Pt) : leastN l 1 = 0 := rfl
theorem leastN_succ (l : List Pt) (k : Nat) (h : 1 ≤ k) : leastN l (k + 1) = if decide (plt (ptAt l k) (ptAt l (leastN l k))) = true then k else leastN l k := by
  unfold leastN
  rw [show k + 1 - 1 = (k - 1) + 1 by omega, List.range'_concat, List.foldl_append]
  have : 1 + 1 * (k - 1) = k := by omega
  simp only [List.foldl_cons, List.foldl_nil, this]
theorem leastN_ok (l : List Pt) : ∀ k, 1 ≤ k → leastN l k < k ∧ ∀ j, j < k → ple (ptAt l (leastN l k)) (ptAt l j) := by
  intro k
  induction k with
  | zero => intro h; omega
  | succ k ih =>
    intro _
    by_cases h0 : k = 0
    · subst h0
      refine ⟨by rw [leastN_one]; omega, fun j hj => ?_⟩
      have : j = 0 := by omega
      subst this; rw [leastN_one]; exact ple_refl _
    · obtain ⟨h1, h2⟩ := ih (by omega)
      rw [leastN_succ l k (by omega)]
      by_cases hp : plt (ptAt l k) (ptAt l (leastN l k))
      · rw [decide_eq_true hp, if_pos rfl]
        refine ⟨by omega, fun j hj => ?_⟩
        by_cases e : j = k
        · subst e; exact ple_refl _
        · exact ple_trans (ple_of_plt hp) (h2 j (by omega))
      · rw [decide_eq_false hp, if_neg (by simp)]
        refine ⟨by omega, fun j hj => ?_⟩
        by_cases e : j = k
        · subst e
          rcases plt_tri (ptAt l (leastN l j)) (ptAt l j) with h | h | h
          · exact ple_of_plt h
          · rw [h]; exact ple_refl _
          · exact absurd h hp
        · exact h2 j (by omega)
theorem leastN_first {l : List Pt} {c : List Nat} (A : Arr l c) (hnd : l.Nodup) (hl : 0 < l.length) : leastN l l.length = c.getD 0 0 := by
  obtain ⟨h1, h2⟩ := leastN_ok l l.length hl
  have h0 := A.lt 0 (A.one hl)
  exact ptAt_inj hnd h1 h0 (ple_antisymm (h2 _ h0) (A.first _ h1))

end Go.Proofs.YtgpapegpdfonpaaGreatDoor
