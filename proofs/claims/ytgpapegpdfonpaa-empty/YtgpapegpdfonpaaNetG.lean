/-
  The count of a net's triangles, by edges that go to the right.
-/
import Derived.Test.YtgpapegpdfonpaaNetF
namespace Go.Proofs.Ytgpapegpdfonpaa
set_option linter.unusedVariables false
set_option linter.unusedSimpArgs false

section
variable {P : Int → Pt} {S : List Int} {a b c : Int} {Tr : Int → Int → Int → Prop}
open Classical

noncomputable def allTr (S : List Int) (Tr : Int → Int → Int → Prop) : List (Int × Int × Int) := (triples S).filter (fun t => decide (Tr t.1 t.2.1 t.2.2))
theorem mem_allTr {x y z : Int} : (x, y, z) ∈ allTr S Tr ↔ Tr x y z ∧ x ∈ S ∧ y ∈ S ∧ z ∈ S := by
  unfold allTr
  rw [List.mem_filter, mem_triples, decide_eq_true_eq]
  constructor
  · rintro ⟨⟨h1, h2, h3⟩, h⟩; exact ⟨h, h1, h2, h3⟩
  · rintro ⟨h, h1, h2, h3⟩; exact ⟨⟨h1, h2, h3⟩, h⟩
theorem nodup_allTr (hS : S.Nodup) : (allTr S Tr).Nodup := (nodup_triples hS).filter _

/-- of the three turns of each triangle one is told -/
theorem NetOf.third (N : NetOf P S a b c Tr) (hS : S.Nodup) (Q : Int × Int × Int → Prop)
    (hQ : ∀ x y z, Tr x y z → x ∈ S → y ∈ S → z ∈ S → (Q (x, y, z) ∧ ¬ Q (y, z, x) ∧ ¬ Q (z, x, y)) ∨ (¬ Q (x, y, z) ∧ Q (y, z, x) ∧ ¬ Q (z, x, y)) ∨ (¬ Q (x, y, z) ∧ ¬ Q (y, z, x) ∧ Q (z, x, y))) :
    ∀ M : List (Int × Int × Int), M.Nodup → (∀ t, t ∈ M ↔ t ∈ allTr S Tr ∧ Q t) → (allTr S Tr).length = 3 * M.length := by
  intro M hMn hM
  have h3 := filter_three (fun t : Int × Int × Int => decide (Q t)) (fun t => decide (Q (t.2.1, t.2.2, t.1))) (fun t => decide (Q (t.2.2, t.1, t.2.1))) (allTr S Tr) (by
    rintro ⟨x, y, z⟩ h
    obtain ⟨h, hx, hy, hz⟩ := mem_allTr.1 h
    rcases hQ x y z h hx hy hz with ⟨k1, k2, k3⟩ | ⟨k1, k2, k3⟩ | ⟨k1, k2, k3⟩ <;> simp [k1, k2, k3])
  have hnd := nodup_allTr (Tr := Tr) hS
  have e1 : ((allTr S Tr).filter (fun t => decide (Q (t.2.1, t.2.2, t.1)))).length = ((allTr S Tr).filter (fun t => decide (Q t))).length := by
    refine len_bij (fun t => (t.2.1, t.2.2, t.1)) (hnd.filter _) (hnd.filter _) ?_ ?_ ?_
    · rintro ⟨x, y, z⟩ _ ⟨x', y', z'⟩ _ e
      simp at e ⊢; omega
    · rintro ⟨x, y, z⟩ h
      rw [List.mem_filter, decide_eq_true_eq] at h ⊢
      obtain ⟨t, hx, hy, hz⟩ := mem_allTr.1 h.1
      exact ⟨mem_allTr.2 ⟨N.rot t, hy, hz, hx⟩, h.2⟩
    · rintro ⟨x, y, z⟩ h
      rw [List.mem_filter, decide_eq_true_eq] at h
      obtain ⟨t, hx, hy, hz⟩ := mem_allTr.1 h.1
      refine ⟨(z, x, y), ?_, rfl⟩
      rw [List.mem_filter, decide_eq_true_eq]
      exact ⟨mem_allTr.2 ⟨N.rot (N.rot t), hz, hx, hy⟩, h.2⟩
  have e2 : ((allTr S Tr).filter (fun t => decide (Q (t.2.2, t.1, t.2.1)))).length = ((allTr S Tr).filter (fun t => decide (Q t))).length := by
    refine len_bij (fun t => (t.2.2, t.1, t.2.1)) (hnd.filter _) (hnd.filter _) ?_ ?_ ?_
    · rintro ⟨x, y, z⟩ _ ⟨x', y', z'⟩ _ e
      simp at e ⊢; omega
    · rintro ⟨x, y, z⟩ h
      rw [List.mem_filter, decide_eq_true_eq] at h ⊢
      obtain ⟨t, hx, hy, hz⟩ := mem_allTr.1 h.1
      exact ⟨mem_allTr.2 ⟨N.rot (N.rot t), hz, hx, hy⟩, h.2⟩
    · rintro ⟨x, y, z⟩ h
      rw [List.mem_filter, decide_eq_true_eq] at h
      obtain ⟨t, hx, hy, hz⟩ := mem_allTr.1 h.1
      refine ⟨(y, z, x), ?_, rfl⟩
      rw [List.mem_filter, decide_eq_true_eq]
      exact ⟨mem_allTr.2 ⟨N.rot t, hy, hz, hx⟩, h.2⟩
  have e3 : ((allTr S Tr).filter (fun t => decide (Q t))).length = M.length := by
    refine len_bij id (hnd.filter _) hMn (fun _ _ _ _ e => e) ?_ ?_
    · intro t h
      rw [List.mem_filter, decide_eq_true_eq] at h
      exact (hM t).2 h
    · intro t h
      refine ⟨t, ?_, rfl⟩
      rw [List.mem_filter, decide_eq_true_eq]
      exact (hM t).1 h
  omega

theorem NetOf.third_real (N : NetOf P S a b c Tr) {x y z : Int} (h : Tr x y z) (hz : z ≠ -1) : z ∈ S := (N.lab (N.rot (N.rot h))).resolve_left hz

theorem NetOf.ne3 (N : NetOf P S a b c Tr) {x y z : Int} (h : Tr x y z) : x ≠ y ∧ y ≠ z ∧ z ≠ x := ⟨N.ne12 h, N.ne12 (N.rot h), N.ne12 (N.rot (N.rot h))⟩

theorem NetOf.count (N : NetOf P S a b c Tr) (hS : S.Nodup) (ts : List (Int × Int × Int)) (hts : ts.Nodup) (hmem : ∀ x y z, (x, y, z) ∈ ts ↔ Tr x y z ∧ 0 ≤ x ∧ x < y ∧ x < z)
    (G : List (Int × Int)) (hG : G.Nodup) (hGm : ∀ x y, (x, y) ∈ G ↔ Tr x y (-1)) : ts.length + 2 + G.length = 2 * S.length := by
  have hA := nodup_allTr (Tr := Tr) hS
  have hP := nodup_pairs hS
  -- by the least number
  have c1 : (allTr S Tr).length = 3 * ts.length := by
    refine N.third hS (fun t => t.1 < t.2.1 ∧ t.1 < t.2.2) ?_ ts hts ?_
    · intro x y z h _ _ _
      obtain ⟨h1, h2, h3⟩ := N.ne3 h
      dsimp only
      omega
    · rintro ⟨x, y, z⟩
      rw [hmem, mem_allTr]
      constructor
      · rintro ⟨t, h0, h1, h2⟩
        exact ⟨⟨t, N.mem t h0, N.mem (N.rot t) (by omega), N.mem (N.rot (N.rot t)) (by omega)⟩, h1, h2⟩
      · rintro ⟨⟨t, hx, hy, hz⟩, h1, h2⟩
        exact ⟨t, N.nn x hx, h1, h2⟩
  -- by the leftmost point
  have tri3 : ∀ x y z, Tr x y z → x ∈ S → y ∈ S → z ∈ S → ((plt (P x) (P y) ∧ plt (P x) (P z)) ∧ ¬ (plt (P y) (P z) ∧ plt (P y) (P x)) ∧ ¬ (plt (P z) (P x) ∧ plt (P z) (P y))) ∨ (¬ (plt (P x) (P y) ∧ plt (P x) (P z)) ∧ (plt (P y) (P z) ∧ plt (P y) (P x)) ∧ ¬ (plt (P z) (P x) ∧ plt (P z) (P y))) ∨ (¬ (plt (P x) (P y) ∧ plt (P x) (P z)) ∧ ¬ (plt (P y) (P z) ∧ plt (P y) (P x)) ∧ (plt (P z) (P x) ∧ plt (P z) (P y))) := by
    intro x y z h hx hy hz
    obtain ⟨h1, h2, h3⟩ := N.ne3 h
    have n1 : ¬ ((P x).1 = (P y).1 ∧ (P x).2 = (P y).2) := fun e => h1 (N.inj x hx y hy (Prod.ext e.1 e.2))
    have n2 : ¬ ((P y).1 = (P z).1 ∧ (P y).2 = (P z).2) := fun e => h2 (N.inj y hy z hz (Prod.ext e.1 e.2))
    have n3 : ¬ ((P z).1 = (P x).1 ∧ (P z).2 = (P x).2) := fun e => h3 (N.inj z hz x hx (Prod.ext e.1 e.2))
    unfold plt
    omega
  generalize hGMe : (allTr S Tr).filter (fun t => decide (plt (P t.1) (P t.2.1) ∧ plt (P t.1) (P t.2.2))) = GM
  have hGM : ∀ x y z, (x, y, z) ∈ GM ↔ (Tr x y z ∧ x ∈ S ∧ y ∈ S ∧ z ∈ S) ∧ plt (P x) (P y) ∧ plt (P x) (P z) := by
    intro x y z
    rw [← hGMe, List.mem_filter, decide_eq_true_eq, mem_allTr]
  have hGMn : GM.Nodup := by rw [← hGMe]; exact hA.filter _
  have c2 : (allTr S Tr).length = 3 * GM.length := by
    refine N.third hS (fun t => plt (P t.1) (P t.2.1) ∧ plt (P t.1) (P t.2.2)) tri3 GM hGMn ?_
    rintro ⟨x, y, z⟩
    rw [hGM, mem_allTr]
  -- edges to the right
  generalize hELe : (pairs S).filter (fun q => decide (plt (P q.1) (P q.2) ∧ ∃ x, Tr q.1 q.2 x)) = EL
  have hELn : EL.Nodup := by rw [← hELe]; exact hP.filter _
  have hEL : ∀ v w, (v, w) ∈ EL ↔ (v ∈ S ∧ w ∈ S) ∧ plt (P v) (P w) ∧ ∃ x, Tr v w x := by
    intro v w
    rw [← hELe, List.mem_filter, decide_eq_true_eq, mem_pairs]
  have s1 := filter_split (fun q : Int × Int => decide (∃ x, Tr q.1 q.2 x ∧ x ∈ S ∧ plt (P q.1) (P x))) EL
  have b1 : GM.length = (EL.filter (fun q : Int × Int => decide (∃ x, Tr q.1 q.2 x ∧ x ∈ S ∧ plt (P q.1) (P x)))).length := by
    refine len_bij (fun t => (t.1, t.2.1)) hGMn (hELn.filter _) ?_ ?_ ?_
    · rintro ⟨x, y, z⟩ h ⟨x', y', z'⟩ h' e
      have h := (hGM _ _ _).1 h
      have h' := (hGM _ _ _).1 h'
      simp at e
      obtain ⟨rfl, rfl⟩ := e
      rw [N.fn h.1.1 h'.1.1]
    · rintro ⟨x, y, z⟩ h
      obtain ⟨⟨t, hx, hy, hz⟩, h1, h2⟩ := (hGM _ _ _).1 h
      rw [List.mem_filter, decide_eq_true_eq]
      exact ⟨(hEL x y).2 ⟨⟨hx, hy⟩, h1, z, t⟩, z, t, hz, h2⟩
    · rintro ⟨v, w⟩ h
      rw [List.mem_filter, decide_eq_true_eq] at h
      obtain ⟨hm, x, t, hx, h2⟩ := h
      obtain ⟨⟨hv, hw⟩, h1, _⟩ := (hEL v w).1 hm
      exact ⟨(v, w, x), (hGM _ _ _).2 ⟨⟨t, hv, hw, hx⟩, h1, h2⟩, rfl⟩
  have b2 : (EL.filter (fun q : Int × Int => ! decide (∃ x, Tr q.1 q.2 x ∧ x ∈ S ∧ plt (P q.1) (P x)))).length = (S.filter (fun v => decide (∃ m ∈ S, plt (P v) (P m)))).length := by
    have top : ∀ v w, (v, w) ∈ EL.filter (fun q : Int × Int => ! decide (∃ x, Tr q.1 q.2 x ∧ x ∈ S ∧ plt (P q.1) (P x))) ↔ v ∈ S ∧ Top P S Tr v w := by
      intro v w
      rw [List.mem_filter, hEL]
      simp only [Bool.not_eq_true', decide_eq_false_iff_not]
      constructor
      · rintro ⟨⟨⟨hv, hw⟩, h1, h2⟩, h3⟩
        exact ⟨hv, ⟨hw, h1, h2⟩, fun x hx hxr => h3 ⟨x, hx, hxr⟩⟩
      · rintro ⟨hv, ⟨hw, h1, h2⟩, h3⟩
        exact ⟨⟨⟨hv, hw⟩, h1, h2⟩, fun ⟨x, hx, hxr⟩ => h3 x hx hxr⟩
    refine len_bij (fun q => q.1) (hELn.filter _) (hS.filter _) ?_ ?_ ?_
    · rintro ⟨v, w⟩ h ⟨v', w'⟩ h' e
      have h := (top v w).1 h
      have h' := (top v' w').1 h'
      dsimp only at e
      subst e
      rw [N.top_uniq h.1 h.2 h'.2]
    · rintro ⟨v, w⟩ h
      obtain ⟨hv, ht⟩ := (top v w).1 h
      rw [List.mem_filter, decide_eq_true_eq]
      exact ⟨hv, w, ht.1.1, ht.1.2.1⟩
    · intro v h
      rw [List.mem_filter, decide_eq_true_eq] at h
      obtain ⟨hv, m, hm, hlt⟩ := h
      obtain ⟨w, hw⟩ := N.top_ex hv hm hlt
      exact ⟨(v, w), (top v w).2 ⟨hv, hw⟩, rfl⟩
  have b3 : S.length = (S.filter (fun v => decide (∃ m ∈ S, plt (P v) (P m)))).length + 1 := by
    rw [filter_split (fun v => decide (∃ m ∈ S, plt (P v) (P m))) S]
    congr 1
    obtain ⟨m, hm, _, hmax⟩ := list_max (fun _ : Int => True) (fun x y => ple (P x) (P y)) (fun x y _ _ => by
      rcases plt_tri (P x) (P y) with h | h | h
      · exact .inl (.inl h)
      · exact .inl (.inr h)
      · exact .inr (.inl h)) (fun x y z _ _ _ h1 h2 => ple_trans h1 h2) S ⟨a, N.ma, trivial⟩
    have : (S.filter (fun v => ! decide (∃ m ∈ S, plt (P v) (P m)))).length = [m].length := by
      refine len_bij id (hS.filter _) (by simp) (fun _ _ _ _ e => e) ?_ ?_
      · intro v h
        rw [List.mem_filter] at h
        simp only [Bool.not_eq_true', decide_eq_false_iff_not] at h
        rcases hmax v h.1 trivial with k | k
        · exact absurd ⟨m, hm, k⟩ h.2
        · simp [N.inj v h.1 m hm k]
      · intro v h
        simp at h
        subst h
        refine ⟨v, ?_, rfl⟩
        rw [List.mem_filter]
        simp only [Bool.not_eq_true', decide_eq_false_iff_not]
        refine ⟨hm, ?_⟩
        rintro ⟨u, hu, k⟩
        rcases hmax u hu trivial with r | r
        · exact plt_irrefl _ (plt_trans k r)
        · rw [r] at k; exact plt_irrefl _ k
    simpa using this
  -- edges in both directions
  generalize hDEe : (pairs S).filter (fun q => decide (∃ x, Tr q.1 q.2 x)) = DE
  have hDEn : DE.Nodup := by rw [← hDEe]; exact hP.filter _
  have hDE : ∀ v w, (v, w) ∈ DE ↔ (v ∈ S ∧ w ∈ S) ∧ ∃ x, Tr v w x := by
    intro v w
    rw [← hDEe, List.mem_filter, decide_eq_true_eq, mem_pairs]
  have s2 := filter_split (fun q : Int × Int => decide (plt (P q.1) (P q.2))) DE
  have b4 : (DE.filter (fun q : Int × Int => decide (plt (P q.1) (P q.2)))).length = EL.length := by
    refine len_bij id (hDEn.filter _) hELn (fun _ _ _ _ e => e) ?_ ?_
    · rintro ⟨v, w⟩ h
      rw [List.mem_filter, decide_eq_true_eq, hDE] at h
      exact (hEL v w).2 ⟨h.1.1, h.2, h.1.2⟩
    · rintro ⟨v, w⟩ h
      have h := (hEL v w).1 h
      refine ⟨(v, w), ?_, rfl⟩
      rw [List.mem_filter, decide_eq_true_eq, hDE]
      exact ⟨⟨h.1, h.2.2⟩, h.2.1⟩
  have b5 : (DE.filter (fun q : Int × Int => ! decide (plt (P q.1) (P q.2)))).length = EL.length := by
    refine len_bij (fun q => (q.2, q.1)) (hDEn.filter _) hELn ?_ ?_ ?_
    · rintro ⟨v, w⟩ _ ⟨v', w'⟩ _ e
      simp at e ⊢; omega
    · rintro ⟨v, w⟩ h
      rw [List.mem_filter, hDE] at h
      simp only [Bool.not_eq_true', decide_eq_false_iff_not] at h
      obtain ⟨⟨⟨hv, hw⟩, x, hx⟩, h2⟩ := h
      refine (hEL w v).2 ⟨⟨hw, hv⟩, ?_, N.pair hx⟩
      rcases plt_tri (P v) (P w) with k | k | k
      · exact absurd k h2
      · exact absurd (N.inj v hv w hw k) (N.ne12 hx)
      · exact k
    · rintro ⟨w, v⟩ h
      obtain ⟨⟨hw, hv⟩, h1, x, hx⟩ := (hEL w v).1 h
      refine ⟨(v, w), ?_, rfl⟩
      rw [List.mem_filter, hDE]
      simp only [Bool.not_eq_true', decide_eq_false_iff_not]
      exact ⟨⟨⟨hv, hw⟩, N.pair hx⟩, fun k => plt_irrefl _ (plt_trans h1 k)⟩
  have s3 := filter_split (fun q : Int × Int => decide (∃ x ∈ S, Tr q.1 q.2 x)) DE
  have b6 : (allTr S Tr).length = (DE.filter (fun q : Int × Int => decide (∃ x ∈ S, Tr q.1 q.2 x))).length := by
    refine len_bij (fun t => (t.1, t.2.1)) hA (hDEn.filter _) ?_ ?_ ?_
    · rintro ⟨x, y, z⟩ h ⟨x', y', z'⟩ h' e
      have h := mem_allTr.1 h
      have h' := mem_allTr.1 h'
      simp at e
      obtain ⟨rfl, rfl⟩ := e
      rw [N.fn h.1 h'.1]
    · rintro ⟨x, y, z⟩ h
      obtain ⟨t, hx, hy, hz⟩ := mem_allTr.1 h
      rw [List.mem_filter, decide_eq_true_eq, hDE]
      exact ⟨⟨⟨hx, hy⟩, z, t⟩, z, hz, t⟩
    · rintro ⟨v, w⟩ h
      rw [List.mem_filter, decide_eq_true_eq, hDE] at h
      obtain ⟨⟨⟨hv, hw⟩, _⟩, x, hx, t⟩ := h
      exact ⟨(v, w, x), mem_allTr.2 ⟨t, hv, hw, hx⟩, rfl⟩
  have b7 : (DE.filter (fun q : Int × Int => ! decide (∃ x ∈ S, Tr q.1 q.2 x))).length = G.length := by
    refine len_bij id (hDEn.filter _) hG (fun _ _ _ _ e => e) ?_ ?_
    · rintro ⟨v, w⟩ h
      rw [List.mem_filter, hDE] at h
      simp only [Bool.not_eq_true', decide_eq_false_iff_not] at h
      obtain ⟨⟨⟨hv, hw⟩, x, hx⟩, h2⟩ := h
      rcases N.lab (N.rot (N.rot hx)) with e | e
      · subst e; exact (hGm v w).2 hx
      · exact absurd ⟨x, e, hx⟩ h2
    · rintro ⟨v, w⟩ h
      have h := (hGm v w).1 h
      have hm := N.ghost_mem h
      refine ⟨(v, w), ?_, rfl⟩
      rw [List.mem_filter, hDE]
      simp only [Bool.not_eq_true', decide_eq_false_iff_not]
      refine ⟨⟨hm, -1, h⟩, ?_⟩
      rintro ⟨x, hx, t⟩
      have := N.fn t h
      have := N.nn x hx
      omega
  omega
end
end Go.Proofs.Ytgpapegpdfonpaa
