/-
  What the statement on corners asks, of numbers of points.
-/
import Derived.Test.YtgpapegpdfonpaaGreatDoorWalksI
namespace Go.Proofs.YtgpapegpdfonpaaGreatDoor
set_option linter.unusedVariables false
set_option linter.unusedSimpArgs false

theorem ordered_ext : ∀ {l m : List Pt}, Ordered l → Ordered m → l.Perm m → l = m
  | [], m, _, _, p => (List.Perm.nil_eq p)
  | a :: l, [], _, _, p => absurd p (List.not_perm_cons_nil)
  | a :: l, b :: m, hl, hm, p => by
    have h1 := List.pairwise_cons.1 hl
    have h2 := List.pairwise_cons.1 hm
    have hab : a = b := by
      have ha : a ∈ b :: m := p.mem_iff.1 (by simp)
      have hb : b ∈ a :: l := p.mem_iff.2 (by simp)
      rcases List.mem_cons.1 ha with e | ha
      · exact e
      · rcases List.mem_cons.1 hb with e | hb
        · exact e.symm
        · exact absurd (plt_trans (h1.1 b hb) (h2.1 a ha)) (plt_irrefl _)
    subst hab
    rw [ordered_ext h1.2 h2.2 (List.perm_cons a |>.1 p)]

def cp (l : List Pt) (c : List Nat) (i : Nat) : Pt := ptAt l (c.getD i 0)

/-- What is asked of the corners' numbers. -/
structure Arr (l : List Pt) (c : List Nat) : Prop where
  lt : ∀ i, i < c.length → c.getD i 0 < l.length
  edge : 1 < c.length → ∀ i, i < c.length → ∀ k, k < l.length → 0 ≤ sd (cp l c i) (cp l c ((i + 1) % c.length)) (ptAt l k) ∧ (sd (cp l c i) (cp l c ((i + 1) % c.length)) (ptAt l k) = 0 → dt (cp l c i) (cp l c ((i + 1) % c.length)) (ptAt l k) ≤ 0)
  turn : 2 < c.length → ∀ i, i < c.length → 0 < sd (cp l c i) (cp l c ((i + 1) % c.length)) (cp l c ((i + 2) % c.length))
  first : ∀ k, k < l.length → ple (cp l c 0) (ptAt l k)
  le : c.length ≤ l.length
  two : 1 < l.length → 1 < c.length
  one : 0 < l.length → 0 < c.length

theorem cornersN_sub (l : List Pt) (is : List Nat) : ∀ p ∈ cornersN l is, p ∈ is := by
  unfold cornersN
  split
  · exact fun p hp => hp
  · intro p hp
    rcases List.mem_append.1 hp with hp | hp
    · have := List.dropLast_subset _ hp
      exact chainN_sub l is p (by simpa [lowN] using this)
    · have := List.dropLast_subset _ hp
      have := chainN_sub l is.reverse p (by simpa [upN] using this)
      simpa using this

theorem ptAt_mem {l : List Pt} {k : Nat} (h : k < l.length) : ptAt l k ∈ l := by
  have : ptAt l k = l[k] := by simp [ptAt_eq, h]
  rw [this]; exact List.getElem_mem h

theorem arr_of {l : List Pt} {is : List Nat} (hio : InOrder l is) (hnd : l.Nodup) : Arr l (cornersN l is) := by
  have hO := hull_ok (hio.ordered_of hnd)
  rw [← cornersN_map] at hO
  have hsub := cornersN_sub l is
  have hlt := hio.lt
  have hS : ∀ k, k < l.length → ptAt l k ∈ is.map (ptAt l) := fun k hk => hio.pts.mem_iff.2 (ptAt_mem hk)
  have hl : (is.map (ptAt l)).length = l.length := hio.pts.length_eq
  generalize cornersN l is = c at *
  have at_ : ∀ i, i < c.length → at' (c.map (ptAt l)) i = cp l c i := fun i hi => by simp [at', cp, hi]
  have hln : (c.map (ptAt l)).length = c.length := by simp
  refine ⟨?_, ?_, ?_, ?_, ?_, ?_, ?_⟩
  · intro i hi
    exact hlt _ (hsub _ (mem_getD hi))
  · intro h1 i hi k hk
    have := hO.edge (by rw [hln]; exact h1) i (by rw [hln]; exact hi) _ (hS k hk)
    rw [hln, at_ i hi, at_ _ (Nat.mod_lt _ (by omega))] at this
    exact this
  · intro h2 i hi
    have := hO.turn (by rw [hln]; exact h2) i (by rw [hln]; exact hi)
    rw [hln, at_ i hi, at_ _ (Nat.mod_lt _ (by omega)), at_ _ (Nat.mod_lt _ (by omega))] at this
    exact this
  · intro k hk
    have := hO.first _ (hS k hk)
    by_cases h0 : 0 < c.length
    · rw [at_ 0 h0] at this; exact this
    · have hc : c = [] := List.length_eq_zero_iff.1 (by omega)
      have := hO.one (by intro e; have := hS k hk; rw [e] at this; simp at this)
      exact absurd (by rw [hc]; rfl) this
  · have := hO.le; rw [hln, hl] at this; exact this
  · intro h; have := hO.two (by rw [hl]; exact h); rw [hln] at this; exact this
  · intro h
    have := hO.one (by intro e; rw [e] at hl; simp at hl; omega)
    have : c ≠ [] := fun e => this (by rw [e]; rfl)
    exact List.length_pos_iff.2 this

/-- the same points in another order: the same corners -/
theorem same_corners {l l' : List Pt} {is is' : List Nat} (hp : l'.Perm l) (hnd : l.Nodup) (h : InOrder l is) (h' : InOrder l' is') :
    (cornersN l' is').map (ptAt l') = (cornersN l is).map (ptAt l) := by
  rw [cornersN_map, cornersN_map]
  congr 1
  exact ordered_ext (h'.ordered_of (hp.symm.nodup hnd)) (h.ordered_of hnd) (h'.pts.trans (hp.trans h.pts.symm))

theorem same_at {l l' : List Pt} {c c' : List Nat} (h : c'.map (ptAt l') = c.map (ptAt l)) : c'.length = c.length ∧ ∀ i, i < c'.length → cp l' c' i = cp l c i := by
  have hl : c'.length = c.length := by have := congrArg List.length h; simpa using this
  refine ⟨hl, fun i hi => ?_⟩
  have := congrArg (fun m => m[i]?) h
  have hi' : i < c.length := by omega
  simp [hi, hi'] at this
  simpa [cp, hi, hi'] using this

theorem rot_perm (l : List Pt) (n : Nat) : (l.drop n ++ l.take n).Perm l :=
  List.perm_append_comm.trans (by rw [List.take_append_drop])

theorem anyFarB_near {l : List Pt} (h : AllNear l) : anyFarB l = false := by
  unfold anyFarB
  rw [List.any_eq_false]
  intro p hp
  obtain ⟨i, hi, rfl⟩ := List.getElem_of_mem hp
  have := h i hi
  have e1 : px l i = l[i].1 := by simp [px, hi]
  have e2 : py l i = l[i].2 := by simp [py, hi]
  rw [e1, e2] at this
  rw [near_farB this]; simp

theorem fault_ok {l : List Pt} (h60 : l.length ≤ 60) (hn : AllNear l) (hd : l.Nodup) : faultN l = 0 := by
  unfold faultN twiceB
  rw [if_neg (by omega), anyFarB_near hn, if_neg (by simp), decide_eq_true hd, if_neg (by simp)]

theorem fault_again {l : List Pt} (h60 : l.length + 1 ≤ 60) (hn : AllNear l) (p : Pt) (hp : p ∈ l) : faultN (l ++ [p]) = 3 := by
  have hfar : anyFarB (l ++ [p]) = false := by
    have := anyFarB_near hn
    unfold anyFarB at *
    rw [List.any_eq_false] at *
    intro q hq
    rcases List.mem_append.1 hq with hq | hq
    · exact this q hq
    · simp at hq; subst hq; exact this _ hp
  have hd : ¬ (l ++ [p]).Nodup := by
    intro h
    rw [List.nodup_append] at h
    exact h.2.2 p hp p (by simp) rfl
  unfold faultN twiceB
  rw [if_neg (by simp; omega), hfar, if_neg (by simp), decide_eq_false hd, if_pos (by simp)]

theorem near_perm {l l' : List Pt} (hp : l'.Perm l) (h : AllNear l) : AllNear l' := by
  intro i hi
  have e1 : px l' i = l'[i].1 := by simp [px, hi]
  have e2 : py l' i = l'[i].2 := by simp [py, hi]
  rw [e1, e2]
  have hm : l'[i] ∈ l := hp.mem_iff.1 (List.getElem_mem hi)
  obtain ⟨j, hj, e⟩ := List.getElem_of_mem hm
  have := h j hj
  have e1 : px l j = l[j].1 := by simp [px, hj]
  have e2 : py l j = l[j].2 := by simp [py, hj]
  rw [e1, e2, e] at this
  exact this

end Go.Proofs.YtgpapegpdfonpaaGreatDoor
