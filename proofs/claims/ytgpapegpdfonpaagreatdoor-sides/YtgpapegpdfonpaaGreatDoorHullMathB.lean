/-
  The two chains together: the hull's corners, and what holds of them.
-/
import Derived.Test.YtgpapegpdfonpaaGreatDoorHullMath
namespace Go.Proofs.YtgpapegpdfonpaaGreatDoor
set_option linter.unusedVariables false
set_option linter.unusedSimpArgs false

/-! ### by places -/
theorem edges_get {S : List Pt} : ∀ {st : List Pt}, Edges S st → ∀ j (h : j + 1 < st.length), (∀ q ∈ S, Lf (st[j + 1]'h) (st[j]'(by omega)) q) ∧ plt (st[j + 1]'h) (st[j]'(by omega)) := by
  intro st
  induction st with
  | nil => intro _ j h; simp at h
  | cons b t ih =>
    intro hE j h
    cases t with
    | nil => simp at h
    | cons a t =>
      cases j with
      | zero => exact ⟨hE.1, hE.2.1⟩
      | succ j => exact ih hE.2.2 j (by simpa using h)
theorem turns_get : ∀ {st : List Pt}, Turns st → ∀ j (h : j + 2 < st.length), 0 < sd (st[j + 2]'h) (st[j + 1]'(by omega)) (st[j]'(by omega)) := by
  intro st
  induction st with
  | nil => intro _ j h; simp at h
  | cons c t ih =>
    intro hT j h
    cases t with
    | nil => simp at h
    | cons b t =>
      cases t with
      | nil => simp at h; omega
      | cons a t =>
        cases j with
        | zero => exact hT.1
        | succ j => exact ih hT.2 j (by simpa using h)
theorem bot_get {S : List Pt} : ∀ {st : List Pt} (h : st ≠ []), Bot S st → ∀ q ∈ S, ple (st.getLast h) q := by
  intro st
  induction st with
  | nil => intro h; exact absurd rfl h
  | cons b t ih =>
    intro h hB
    cases t with
    | nil => exact hB
    | cons a t => rw [List.getLast_cons (by simp)]; exact ih (by simp) hB

/-- What a chain is, in the order in which it goes. -/
structure Way (S F : List Pt) : Prop where
  edge : ∀ i (h : i + 1 < F.length), (∀ q ∈ S, Lf (F[i]'(by omega)) (F[i + 1]'h) q) ∧ plt (F[i]'(by omega)) (F[i + 1]'h)
  turn : ∀ i (h : i + 2 < F.length), 0 < sd (F[i]'(by omega)) (F[i + 1]'(by omega)) (F[i + 2]'h)
  first : ∀ (h : 0 < F.length), ∀ q ∈ S, ple (F[0]'h) q
  last : ∀ (h : F.length - 1 < F.length), ∀ q ∈ S, ple q (F[F.length - 1]'h)
  ne : S ≠ [] → F ≠ []
  sub : ∀ p ∈ F, p ∈ S

theorem way_of_chain {S st : List Pt} (C : Chain S st) : Way S st.reverse := by
  refine ⟨fun i h => ?_, fun i h => ?_, fun h q hq => ?_, fun h q hq => ?_, fun h e => C.ne h (by simpa using e), fun p hp => C.sub p (by simpa using hp)⟩
  · simp only [List.length_reverse] at h
    have := edges_get C.edges (st.length - 1 - (i + 1)) (by omega)
    simp only [List.getElem_reverse]
    have e : st.length - 1 - (i + 1) + 1 = st.length - 1 - i := by omega
    simp only [e] at this
    exact this
  · simp only [List.length_reverse] at h
    have := turns_get C.turns (st.length - 1 - (i + 2)) (by omega)
    simp only [List.getElem_reverse]
    have e1 : st.length - 1 - (i + 2) + 1 = st.length - 1 - (i + 1) := by omega
    have e2 : st.length - 1 - (i + 2) + 2 = st.length - 1 - i := by omega
    simp only [e1, e2] at this
    exact this
  · simp only [List.length_reverse] at h
    have hne : st ≠ [] := by intro e; subst e; simp at h
    have := bot_get hne C.bot q hq
    simp only [List.getElem_reverse]
    rw [List.getLast_eq_getElem] at this
    simpa using this
  · simp only [List.length_reverse] at h
    cases st with
    | nil => simp at h
    | cons b t =>
      have := C.top b t rfl q hq
      simp only [List.getElem_reverse]
      have e : (b :: t).length - 1 - ((b :: t).length - 1) = 0 := by omega
      simpa [e] using this

/-! ### the other way round -/
def ng (p : Pt) : Pt := (-p.1, -p.2)
theorem ng_ng (p : Pt) : ng (ng p) = p := by simp [ng]
theorem sd_ng (a b c : Pt) : sd (ng a) (ng b) (ng c) = sd a b c := by unfold sd ng; grind
theorem plt_ng (a b : Pt) : plt (ng a) (ng b) ↔ plt b a := by unfold plt ng; simp only; omega
theorem ple_ng (a b : Pt) : ple (ng a) (ng b) ↔ ple b a := by
  unfold ple
  rw [plt_ng]
  constructor
  · rintro (h | h)
    · exact .inl h
    · right; rw [← ng_ng b, ← ng_ng a, h]
  · rintro (h | h)
    · exact .inl h
    · right; rw [h]
theorem popTo_ng (n : Pt) : ∀ st : List Pt, popTo (ng n) (st.map ng) = (popTo n st).map ng := by
  intro st
  induction st with
  | nil => rfl
  | cons b t ih =>
    cases t with
    | nil => rfl
    | cons a t =>
      simp only [List.map_cons, popTo, sd_ng]
      split
      · exact ih
      · rfl
theorem chainR_ng (ps : List Pt) : chainR (ps.map ng) = (chainR ps).map ng := by
  unfold chainR
  have key : ∀ (ps st : List Pt), (ps.map ng).foldl (fun st n => n :: popTo n st) (st.map ng) = (ps.foldl (fun st n => n :: popTo n st) st).map ng := by
    intro ps
    induction ps with
    | nil => intro st; rfl
    | cons p ps ih =>
      intro st
      simp only [List.map_cons, List.foldl_cons, popTo_ng]
      exact ih (p :: popTo p st)
  exact key ps []

/-- A chain that goes back. -/
structure Back (S F : List Pt) : Prop where
  edge : ∀ i (h : i + 1 < F.length), (∀ q ∈ S, 0 < sd (F[i]'(by omega)) (F[i + 1]'h) q ∨ (sd (F[i]'(by omega)) (F[i + 1]'h) q = 0 ∧ ple q (F[i]'(by omega)) ∧ ple (F[i + 1]'h) q)) ∧ plt (F[i + 1]'h) (F[i]'(by omega))
  turn : ∀ i (h : i + 2 < F.length), 0 < sd (F[i]'(by omega)) (F[i + 1]'(by omega)) (F[i + 2]'h)
  first : ∀ (h : 0 < F.length), ∀ q ∈ S, ple q (F[0]'h)
  last : ∀ (h : F.length - 1 < F.length), ∀ q ∈ S, ple (F[F.length - 1]'h) q
  ne : S ≠ [] → F ≠ []
  sub : ∀ p ∈ F, p ∈ S

theorem back_of_way {S F : List Pt} (W : Way (S.map ng) (F.map ng)) : Back S F := by
  refine ⟨fun i h => ⟨fun q hq => ?_, ?_⟩, fun i h => ?_, fun h q hq => ?_, fun h q hq => ?_, fun h e => W.ne (by simpa using h) (by simp [e]), fun p hp => ?_⟩
  · have := (W.edge i (by simpa using h)).1 (ng q) (List.mem_map_of_mem hq)
    unfold Lf at this
    simpa only [List.getElem_map, sd_ng, ple_ng] using this
  · have := (W.edge i (by simpa using h)).2
    simpa only [List.getElem_map, plt_ng] using this
  · have := W.turn i (by simpa using h)
    simpa only [List.getElem_map, sd_ng] using this
  · have := W.first (by simpa using h) (ng q) (List.mem_map_of_mem hq)
    simpa only [List.getElem_map, ple_ng] using this
  · have := W.last (by simpa using h) (ng q) (List.mem_map_of_mem hq)
    simpa only [List.getElem_map, List.length_map, ple_ng] using this
  · have := W.sub (ng p) (List.mem_map_of_mem hp)
    obtain ⟨r, hr, e⟩ := List.mem_map.1 this
    rw [← ng_ng p, ← e, ng_ng]; exact hr

def lowerC (ps : List Pt) : List Pt := (chainR ps).reverse
def upperC (ps : List Pt) : List Pt := (chainR ps.reverse).reverse

theorem lower_ok {ps : List Pt} (h : Ordered ps) : Way ps (lowerC ps) := way_of_chain (chain_ok ps h)

theorem upper_ok {ps : List Pt} (h : Ordered ps) : Back ps (upperC ps) := by
  apply back_of_way
  have hO : Ordered (ps.reverse.map ng) := by
    unfold Ordered at *
    rw [List.pairwise_map, List.pairwise_reverse]
    exact h.imp fun hab => (plt_ng _ _).2 hab
  have W := way_of_chain (chain_ok _ hO)
  rw [chainR_ng] at W
  have e : (upperC ps).map ng = (List.map ng (chainR ps.reverse)).reverse := by unfold upperC; rw [List.map_reverse]
  rw [e]
  refine ⟨fun i h => ⟨fun q hq => (W.edge i h).1 q (by simpa using hq), (W.edge i h).2⟩, W.turn, fun h q hq => W.first h q (by simpa using hq), fun h q hq => W.last h q (by simpa using hq), fun h => W.ne (by simpa using h), fun p hp => by simpa using W.sub p hp⟩

end Go.Proofs.YtgpapegpdfonpaaGreatDoor
