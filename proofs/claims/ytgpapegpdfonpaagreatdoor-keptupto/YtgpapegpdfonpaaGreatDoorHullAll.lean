/-
  The corners around points, in plain numbers: a chain through points in order keeps all of them on its left.
  The two chains together: the hull's corners, and what holds of them.
  The hull's corners: all points lie left of any two that follow each other, or between them; each corner lies left of the two ahead of it; none stands twice.
  The hull's corners, all that is asked of them.
-/
import Derived.KernelRfl
namespace Go.Proofs.YtgpapegpdfonpaaGreatDoor
set_option linter.unusedVariables false
set_option linter.unusedSimpArgs false

abbrev Pt := Int × Int

/-- on which side -/
def sd (a b c : Pt) : Int := (b.1 - a.1) * (c.2 - a.2) - (b.2 - a.2) * (c.1 - a.1)
/-- the order by X, then by Y -/
def plt (a b : Pt) : Prop := a.1 < b.1 ∨ (a.1 = b.1 ∧ a.2 < b.2)
def ple (a b : Pt) : Prop := plt a b ∨ a = b
/-- a way that leads forward -/
def fw (x y : Int) : Prop := 0 < x ∨ (x = 0 ∧ 0 < y)

theorem plt_irrefl (a : Pt) : ¬ plt a a := by unfold plt; omega
theorem plt_trans {a b c : Pt} (h : plt a b) (k : plt b c) : plt a c := by unfold plt at *; omega
theorem plt_tri (a b : Pt) : plt a b ∨ a = b ∨ plt b a := by
  unfold plt
  by_cases h : a.1 = b.1
  · by_cases k : a.2 = b.2
    · exact .inr (.inl (Prod.ext h k))
    · omega
  · omega
theorem plt_fw {a b : Pt} (h : plt a b) : fw (b.1 - a.1) (b.2 - a.2) := by unfold plt at h; unfold fw; omega
theorem ple_refl (a : Pt) : ple a a := .inr rfl
theorem ple_of_plt {a b : Pt} (h : plt a b) : ple a b := .inl h
theorem ple_trans {a b c : Pt} (h : ple a b) (k : ple b c) : ple a c := by
  rcases h with h | rfl
  · rcases k with k | rfl
    · exact .inl (plt_trans h k)
    · exact .inl h
  · exact k
theorem ple_antisymm {a b : Pt} (h : ple a b) (k : ple b a) : a = b := by
  rcases h with h | h
  · rcases k with k | k
    · exact absurd (plt_trans h k) (plt_irrefl a)
    · exact k.symm
  · exact h

theorem ilt_or_ge (a b : Int) : a < b ∨ b ≤ a := by omega
theorem neg_of_mul_neg {c x : Int} (hc : 0 < c) (h : c * x < 0) : x < 0 := by
  rcases ilt_or_ge x 0 with k | k
  · exact k
  · have := Int.mul_nonneg (Int.le_of_lt hc) k; omega
theorem pos_of_mul {c x : Int} (hc : 0 < c) (h : 0 < c * x) : 0 < x := by
  rcases ilt_or_ge 0 x with k | k
  · exact k
  · have := Int.mul_nonneg (Int.le_of_lt hc) (show 0 ≤ -x by omega); rw [Int.mul_neg] at this; omega
theorem nonneg_of_mul {c x : Int} (hc : 0 < c) (h : 0 ≤ c * x) : 0 ≤ x := by
  rcases ilt_or_ge x 0 with k | k
  · have := Int.mul_pos hc (show 0 < -x by omega); rw [Int.mul_neg] at this; omega
  · exact k

theorem fw_x {x y : Int} (h : fw x y) : 0 ≤ x := by unfold fw at h; omega

theorem tr_ge {nx ny cx cy qx qy : Int} (hn : fw nx ny) (hc : fw cx cy) (hq : fw qx qy) (h1 : 0 ≤ nx * cy - ny * cx) (h2 : 0 ≤ cx * qy - cy * qx) : 0 ≤ nx * qy - ny * qx := by
  have hnx := fw_x hn; have hqx := fw_x hq
  rcases hc with hc | ⟨rfl, hc⟩
  · have e : cx * (nx * qy - ny * qx) = qx * (nx * cy - ny * cx) + nx * (cx * qy - cy * qx) := by grind
    have := Int.mul_nonneg hqx h1; have := Int.mul_nonneg hnx h2
    exact nonneg_of_mul hc (by omega)
  · have h3 : cy * qx ≤ 0 := by omega
    have hq0 : qx = 0 := by
      rcases ilt_or_ge 0 qx with k | k
      · have := Int.mul_pos hc k; omega
      · omega
    subst hq0
    have hqy : 0 < qy := by unfold fw at hq; omega
    have := Int.mul_nonneg hnx (Int.le_of_lt hqy)
    omega

theorem tr_gt {nx ny cx cy qx qy : Int} (hn : fw nx ny) (hc : fw cx cy) (hq : fw qx qy) (h1 : 0 ≤ nx * cy - ny * cx) (h2 : 0 < cx * qy - cy * qx) : 0 < nx * qy - ny * qx := by
  have hqx := fw_x hq
  rcases hc with hc | ⟨rfl, hc⟩
  · have e : cx * (nx * qy - ny * qx) = qx * (nx * cy - ny * cx) + nx * (cx * qy - cy * qx) := by grind
    rcases hn with hn | ⟨rfl, hn⟩
    · have := Int.mul_nonneg hqx h1; have := Int.mul_pos hn h2
      exact pos_of_mul hc (by omega)
    · have := Int.mul_pos hn hc; omega
  · have := Int.mul_nonneg (Int.le_of_lt hc) hqx; omega

/-- 0 < sd z a b, 0 < sd a b n, in order: 0 < sd z a n -/
theorem turn_on {z a b n : Pt} (h1 : plt z a) (h2 : plt a b) (h3 : plt b n) (t1 : 0 < sd z a b) (t2 : 0 < sd a b n) : 0 < sd z a n := by
  have f1 := plt_fw h1; have f2 := plt_fw h2; have f3 := plt_fw h3
  have c1 : 0 < (a.1 - z.1) * (b.2 - a.2) - (a.2 - z.2) * (b.1 - a.1) := by
    have : sd z a b = (a.1 - z.1) * (b.2 - a.2) - (a.2 - z.2) * (b.1 - a.1) := by unfold sd; grind
    omega
  have c2 : 0 < (b.1 - a.1) * (n.2 - b.2) - (b.2 - a.2) * (n.1 - b.1) := by
    have : sd a b n = (b.1 - a.1) * (n.2 - b.2) - (b.2 - a.2) * (n.1 - b.1) := by unfold sd; grind
    omega
  have c3 := tr_gt f1 f2 f3 (by omega) c2
  have : sd z a n = ((a.1 - z.1) * (b.2 - a.2) - (a.2 - z.2) * (b.1 - a.1)) + ((a.1 - z.1) * (n.2 - b.2) - (a.2 - z.2) * (n.1 - b.1)) := by unfold sd; grind
  omega

/-- of points ahead of b: left of a to b, n strictly left: then strictly left of b to n -/
theorem left_behind {a b n q : Pt} (h1 : plt a b) (h2 : plt b n) (h3 : plt q b) (t1 : 0 ≤ sd a b q) (t2 : 0 < sd a b n) : 0 < sd b n q := by
  have f1 := plt_fw h1; have f2 := plt_fw h2; have f3 := plt_fw h3
  have c1 : 0 ≤ (b.1 - q.1) * (b.2 - a.2) - (b.2 - q.2) * (b.1 - a.1) := by
    have : sd a b q = (b.1 - q.1) * (b.2 - a.2) - (b.2 - q.2) * (b.1 - a.1) := by unfold sd; grind
    omega
  have c2 : 0 < (b.1 - a.1) * (n.2 - b.2) - (b.2 - a.2) * (n.1 - b.1) := by
    have : sd a b n = (b.1 - a.1) * (n.2 - b.2) - (b.2 - a.2) * (n.1 - b.1) := by unfold sd; grind
    omega
  have c3 := tr_gt f3 f1 f2 c1 c2
  have : sd b n q = (b.1 - q.1) * (n.2 - b.2) - (b.2 - q.2) * (n.1 - b.1) := by unfold sd; grind
  omega

/-- where b goes: what was left of a to b is left of a to n, if n is not left of a to b -/
theorem left_popped {a b n q : Pt} (h1 : plt a b) (h2 : plt a n) (h3 : plt a q) (t1 : 0 ≤ sd a b q) (t2 : sd a b n ≤ 0) : 0 ≤ sd a n q := by
  have f1 := plt_fw h1; have f2 := plt_fw h2; have f3 := plt_fw h3
  have c1 : 0 ≤ (n.1 - a.1) * (b.2 - a.2) - (n.2 - a.2) * (b.1 - a.1) := by
    have : sd a b n = - ((n.1 - a.1) * (b.2 - a.2) - (n.2 - a.2) * (b.1 - a.1)) := by unfold sd; grind
    omega
  exact tr_ge f2 f1 f3 c1 t1

/-! ### the chain -/

/-- q lies left of a to b, or between them -/
def Lf (a b q : Pt) : Prop := 0 < sd a b q ∨ (sd a b q = 0 ∧ ple a q ∧ ple q b)

theorem Lf.nonneg {a b q : Pt} (h : Lf a b q) : 0 ≤ sd a b q := by rcases h with h | h <;> omega

/-- what is taken away ahead of n (the last that was kept stands first) -/
def popTo (n : Pt) : List Pt → List Pt
  | b :: a :: t => if sd a b n ≤ 0 then popTo n (a :: t) else b :: a :: t
  | l => l
def chainR (ps : List Pt) : List Pt := ps.foldl (fun st n => n :: popTo n st) []

/-- the edges of what is kept: each in order, all of S on its left -/
def Edges (S : List Pt) : List Pt → Prop
  | b :: a :: t => (∀ q ∈ S, Lf a b q) ∧ plt a b ∧ Edges S (a :: t)
  | _ => True
def Turns : List Pt → Prop
  | c :: b :: a :: t => 0 < sd a b c ∧ Turns (b :: a :: t)
  | _ => True
/-- the one that was kept first is the least -/
def Bot (S : List Pt) : List Pt → Prop
  | [] => True
  | [z] => ∀ q ∈ S, ple z q
  | _ :: b :: t => Bot S (b :: t)

theorem edges_cons (S : List Pt) (n : Pt) : ∀ (st : List Pt), Edges S st → (∀ b a t, st = b :: a :: t → 0 < sd a b n) → Turns st → (∀ b t, st = b :: t → plt b n) → Edges (S ++ [n]) st := by
  intro st
  induction st with
  | nil => intros; trivial
  | cons b t ih =>
    intro hE h1 hT hn
    cases t with
    | nil => trivial
    | cons a t =>
      obtain ⟨e1, e2, e3⟩ := hE
      have hbn := hn b _ rfl
      have hab := h1 b a t rfl
      refine ⟨fun q hq => ?_, e2, ih e3 ?_ ?_ ?_⟩
      · rcases List.mem_append.1 hq with hq | hq
        · exact e1 q hq
        · rw [List.mem_singleton] at hq; subst hq; exact .inl hab
      · intro b' a' t' e
        cases e
        exact turn_on e3.2.1 e2 hbn hT.1 hab
      · cases t with
        | nil => trivial
        | cons => exact hT.2
      · intro b' t' e
        cases e
        exact plt_trans e2 hbn

/-- what stands behind taking away -/
structure Popped (S : List Pt) (n : Pt) (st' : List Pt) : Prop where
  ne : st' ≠ []
  edges : Edges S st'
  turns : Turns st'
  bot : Bot S st'
  top : ∀ b t, st' = b :: t → plt b n ∧ ∀ q ∈ S, Lf b n q
  last : ∀ b a t, st' = b :: a :: t → 0 < sd a b n

theorem pop_ok (S : List Pt) (n : Pt) (hn : ∀ q ∈ S, plt q n) : ∀ (st : List Pt), st ≠ [] → Edges S st → Turns st → Bot S st → (∀ b t, st = b :: t → plt b n ∧ ∀ q ∈ S, plt b q → 0 ≤ sd b n q) → Popped S n (popTo n st) := by
  intro st
  induction st with
  | nil => intro h; exact absurd rfl h
  | cons b t ih =>
    intro _ hE hT hB hQ
    obtain ⟨hbn, hQ'⟩ := hQ b t rfl
    cases t with
    | nil =>
      refine ⟨by simp [popTo], trivial, trivial, hB, ?_, ?_⟩
      · intro b' t' e
        cases e
        refine ⟨hbn, fun q hq => ?_⟩
        rcases hB q hq with h | h
        · have := hQ' q hq h
          rcases ilt_or_ge 0 (sd b n q) with k | k
          · exact .inl k
          · exact .inr ⟨by omega, .inl h, .inl (hn q hq)⟩
        · subst h
          exact .inr ⟨by unfold sd; grind, ple_refl _, .inl hbn⟩
      · intro b' a' t' e; cases e
    | cons a t =>
      obtain ⟨e1, e2, e3⟩ := hE
      unfold popTo
      by_cases hp : sd a b n ≤ 0
      · rw [if_pos hp]
        refine ih (by simp) e3 ?_ hB ?_
        · cases t with
          | nil => trivial
          | cons => exact hT.2
        · intro b' t' e
          cases e
          exact ⟨plt_trans e2 hbn, fun q hq haq => left_popped e2 (plt_trans e2 hbn) haq (e1 q hq).nonneg hp⟩
      · rw [if_neg hp]
        refine ⟨by simp, ⟨e1, e2, e3⟩, hT, hB, ?_, ?_⟩
        · intro b' t' e
          cases e
          refine ⟨hbn, fun q hq => ?_⟩
          rcases plt_tri b q with h | h | h
          · have := hQ' q hq h
            rcases ilt_or_ge 0 (sd b n q) with k | k
            · exact .inl k
            · exact .inr ⟨by omega, .inl h, .inl (hn q hq)⟩
          · subst h
            exact .inr ⟨by unfold sd; grind, ple_refl _, .inl hbn⟩
          · exact .inl (left_behind e2 hbn h (e1 q hq).nonneg (by omega))
        · intro b' a' t' e
          cases e
          omega

/-- the chain through points that stand in order -/
structure Chain (S st : List Pt) : Prop where
  edges : Edges S st
  turns : Turns st
  bot : Bot S st
  ne : S ≠ [] → st ≠ []
  top : ∀ b t, st = b :: t → ∀ q ∈ S, ple q b
  sub : ∀ p ∈ st, p ∈ S

theorem popTo_sub (n : Pt) : ∀ (st : List Pt), ∀ p ∈ popTo n st, p ∈ st := by
  intro st
  induction st with
  | nil => intro p hp; simp [popTo] at hp
  | cons b t ih =>
    intro p hp
    cases t with
    | nil => simpa [popTo] using hp
    | cons a t =>
      unfold popTo at hp
      split at hp
      · exact List.mem_cons_of_mem _ (ih p hp)
      · exact hp

theorem chain_push {S st : List Pt} (C : Chain S st) (n : Pt) (hn : ∀ q ∈ S, plt q n) : Chain (S ++ [n]) (n :: popTo n st) := by
  by_cases hS : S = []
  · subst hS
    have hst : st = [] := by
      cases st with
      | nil => rfl
      | cons b t => exact absurd (C.sub b (by simp)) (by simp)
    subst hst
    refine ⟨trivial, trivial, ?_, fun _ => by simp, ?_, ?_⟩
    · intro q hq; simp at hq; subst hq; exact ple_refl _
    · intro b t e q hq; cases e; simp at hq; subst hq; exact ple_refl _
    · intro p hp; simpa [popTo] using hp
  · have P := pop_ok S n hn st (C.ne hS) C.edges C.turns C.bot fun b t e => by
      refine ⟨hn b (C.sub b (by rw [e]; simp)), fun q hq hbq => ?_⟩
      have := C.top b t e q hq
      exact absurd (ple_antisymm this (.inl hbq)) (fun e => by subst e; exact plt_irrefl _ hbq)
    have hsub : ∀ p ∈ popTo n st, p ∈ S := fun p hp => C.sub p (popTo_sub n st p hp)
    revert P hsub
    generalize popTo n st = st'
    intro P hsub
    cases st' with
    | nil => exact absurd rfl P.ne
    | cons b t =>
      obtain ⟨hbn, hL⟩ := P.top b t rfl
      refine ⟨⟨fun q hq => ?_, hbn, edges_cons S n _ P.edges P.last P.turns fun b' t' e => by cases e; exact hbn⟩, ?_, ?_, fun _ => by simp, ?_, ?_⟩
      · rcases List.mem_append.1 hq with hq | hq
        · exact hL q hq
        · rw [List.mem_singleton] at hq; subst hq
          exact .inr ⟨by unfold sd; grind, .inl hbn, ple_refl _⟩
      · cases t with
        | nil => trivial
        | cons a t => exact ⟨P.last b a t rfl, P.turns⟩
      · have : ∀ st : List Pt, st ≠ [] → (∀ p ∈ st, p ∈ S) → Bot S st → Bot (S ++ [n]) st := by
          intro st
          induction st with
          | nil => intro h; exact absurd rfl h
          | cons x t ih =>
            intro _ hs hB
            cases t with
            | nil =>
              intro q hq
              rcases List.mem_append.1 hq with hq | hq
              · exact hB q hq
              · rw [List.mem_singleton] at hq; subst hq
                exact .inl (hn x (hs x (by simp)))
            | cons y t => exact ih (by simp) (fun p hp => hs p (List.mem_cons_of_mem _ hp)) hB
        exact this (b :: t) (by simp) hsub P.bot
      · intro b' t' e q hq
        cases e
        rcases List.mem_append.1 hq with hq | hq
        · exact .inl (hn q hq)
        · rw [List.mem_singleton] at hq; subst hq; exact ple_refl _
      · intro p hp
        rcases List.mem_cons.1 hp with hp | hp
        · subst hp; simp
        · exact List.mem_append_left _ (hsub p hp)

/-- points in order -/
def Ordered : List Pt → Prop := List.Pairwise plt

theorem chain_ok (ps : List Pt) (h : Ordered ps) : Chain ps (chainR ps) := by
  have key : ∀ (ps S st : List Pt), Chain S st → (∀ q ∈ S, ∀ p ∈ ps, plt q p) → Ordered ps → Chain (S ++ ps) (ps.foldl (fun st n => n :: popTo n st) st) := by
    intro ps
    induction ps with
    | nil => intro S st C _ _; simpa using C
    | cons p ps ih =>
      intro S st C hS hO
      have hO' := List.pairwise_cons.1 hO
      have := ih (S ++ [p]) _ (chain_push C p fun q hq => hS q hq p (by simp)) (fun q hq r hr => by
        rcases List.mem_append.1 hq with hq | hq
        · exact hS q hq r (List.mem_cons_of_mem _ hr)
        · rw [List.mem_singleton] at hq; subst hq; exact hO'.1 r hr) hO'.2
      simpa using this
  have := key ps [] [] ⟨trivial, trivial, trivial, fun h => absurd rfl h, fun b t e => (by cases e), fun p hp => (by cases hp)⟩ (fun q hq => (by cases hq)) h
  simpa [chainR] using this

end Go.Proofs.YtgpapegpdfonpaaGreatDoor

namespace Go.Proofs.YtgpapegpdfonpaaGreatDoor
set_option linter.unusedVariables false
set_option linter.unusedSimpArgs false

/-! ### by places -/
theorem edges_get {S : List Pt} : ∀ {st : List Pt}, Edges S st → ∀ j (h : j + 1 < st.length), (∀ q ∈ S, Lf (st[j + 1]'h) (st[j]'(by omega)) q) ∧ plt (st[j + 1]'h) (st[j]'(by omega)) := by
  intro st
  induction st with
  | nil => intro _ j h; simp at h
  | cons b t ih =>
    intro hE j h
    cases t with
    | nil => simp at h
    | cons a t =>
      cases j with
      | zero => exact ⟨hE.1, hE.2.1⟩
      | succ j => exact ih hE.2.2 j (by simpa using h)
theorem turns_get : ∀ {st : List Pt}, Turns st → ∀ j (h : j + 2 < st.length), 0 < sd (st[j + 2]'h) (st[j + 1]'(by omega)) (st[j]'(by omega)) := by
  intro st
  induction st with
  | nil => intro _ j h; simp at h
  | cons c t ih =>
    intro hT j h
    cases t with
    | nil => simp at h
    | cons b t =>
      cases t with
      | nil => simp at h; omega
      | cons a t =>
        cases j with
        | zero => exact hT.1
        | succ j => exact ih hT.2 j (by simpa using h)
theorem bot_get {S : List Pt} : ∀ {st : List Pt} (h : st ≠ []), Bot S st → ∀ q ∈ S, ple (st.getLast h) q := by
  intro st
  induction st with
  | nil => intro h; exact absurd rfl h
  | cons b t ih =>
    intro h hB
    cases t with
    | nil => exact hB
    | cons a t => rw [List.getLast_cons (by simp)]; exact ih (by simp) hB

/-- What a chain is, in the order in which it goes. -/
structure Way (S F : List Pt) : Prop where
  edge : ∀ i (h : i + 1 < F.length), (∀ q ∈ S, Lf (F[i]'(by omega)) (F[i + 1]'h) q) ∧ plt (F[i]'(by omega)) (F[i + 1]'h)
  turn : ∀ i (h : i + 2 < F.length), 0 < sd (F[i]'(by omega)) (F[i + 1]'(by omega)) (F[i + 2]'h)
  first : ∀ (h : 0 < F.length), ∀ q ∈ S, ple (F[0]'h) q
  last : ∀ (h : F.length - 1 < F.length), ∀ q ∈ S, ple q (F[F.length - 1]'h)
  ne : S ≠ [] → F ≠ []
  sub : ∀ p ∈ F, p ∈ S

theorem way_of_chain {S st : List Pt} (C : Chain S st) : Way S st.reverse := by
  refine ⟨fun i h => ?_, fun i h => ?_, fun h q hq => ?_, fun h q hq => ?_, fun h e => C.ne h (by simpa using e), fun p hp => C.sub p (by simpa using hp)⟩
  · simp only [List.length_reverse] at h
    have := edges_get C.edges (st.length - 1 - (i + 1)) (by omega)
    simp only [List.getElem_reverse]
    have e : st.length - 1 - (i + 1) + 1 = st.length - 1 - i := by omega
    simp only [e] at this
    exact this
  · simp only [List.length_reverse] at h
    have := turns_get C.turns (st.length - 1 - (i + 2)) (by omega)
    simp only [List.getElem_reverse]
    have e1 : st.length - 1 - (i + 2) + 1 = st.length - 1 - (i + 1) := by omega
    have e2 : st.length - 1 - (i + 2) + 2 = st.length - 1 - i := by omega
    simp only [e1, e2] at this
    exact this
  · simp only [List.length_reverse] at h
    have hne : st ≠ [] := by intro e; subst e; simp at h
    have := bot_get hne C.bot q hq
    simp only [List.getElem_reverse]
    rw [List.getLast_eq_getElem] at this
    simpa using this
  · simp only [List.length_reverse] at h
    cases st with
    | nil => simp at h
    | cons b t =>
      have := C.top b t rfl q hq
      simp only [List.getElem_reverse]
      have e : (b :: t).length - 1 - ((b :: t).length - 1) = 0 := by omega
      simpa [e] using this

/-! ### the other way round -/
def ng (p : Pt) : Pt := (-p.1, -p.2)
theorem ng_ng (p : Pt) : ng (ng p) = p := by simp [ng]
theorem sd_ng (a b c : Pt) : sd (ng a) (ng b) (ng c) = sd a b c := by unfold sd ng; grind
theorem plt_ng (a b : Pt) : plt (ng a) (ng b) ↔ plt b a := by unfold plt ng; simp only; omega
theorem ple_ng (a b : Pt) : ple (ng a) (ng b) ↔ ple b a := by
  unfold ple
  rw [plt_ng]
  constructor
  · rintro (h | h)
    · exact .inl h
    · right; rw [← ng_ng b, ← ng_ng a, h]
  · rintro (h | h)
    · exact .inl h
    · right; rw [h]
theorem popTo_ng (n : Pt) : ∀ st : List Pt, popTo (ng n) (st.map ng) = (popTo n st).map ng := by
  intro st
  induction st with
  | nil => rfl
  | cons b t ih =>
    cases t with
    | nil => rfl
    | cons a t =>
      simp only [List.map_cons, popTo, sd_ng]
      split
      · exact ih
      · rfl
theorem chainR_ng (ps : List Pt) : chainR (ps.map ng) = (chainR ps).map ng := by
  unfold chainR
  have key : ∀ (ps st : List Pt), (ps.map ng).foldl (fun st n => n :: popTo n st) (st.map ng) = (ps.foldl (fun st n => n :: popTo n st) st).map ng := by
    intro ps
    induction ps with
    | nil => intro st; rfl
    | cons p ps ih =>
      intro st
      simp only [List.map_cons, List.foldl_cons, popTo_ng]
      exact ih (p :: popTo p st)
  exact key ps []

/-- A chain that goes back. -/
structure Back (S F : List Pt) : Prop where
  edge : ∀ i (h : i + 1 < F.length), (∀ q ∈ S, 0 < sd (F[i]'(by omega)) (F[i + 1]'h) q ∨ (sd (F[i]'(by omega)) (F[i + 1]'h) q = 0 ∧ ple q (F[i]'(by omega)) ∧ ple (F[i + 1]'h) q)) ∧ plt (F[i + 1]'h) (F[i]'(by omega))
  turn : ∀ i (h : i + 2 < F.length), 0 < sd (F[i]'(by omega)) (F[i + 1]'(by omega)) (F[i + 2]'h)
  first : ∀ (h : 0 < F.length), ∀ q ∈ S, ple q (F[0]'h)
  last : ∀ (h : F.length - 1 < F.length), ∀ q ∈ S, ple (F[F.length - 1]'h) q
  ne : S ≠ [] → F ≠ []
  sub : ∀ p ∈ F, p ∈ S

theorem back_of_way {S F : List Pt} (W : Way (S.map ng) (F.map ng)) : Back S F := by
  refine ⟨fun i h => ⟨fun q hq => ?_, ?_⟩, fun i h => ?_, fun h q hq => ?_, fun h q hq => ?_, fun h e => W.ne (by simpa using h) (by simp [e]), fun p hp => ?_⟩
  · have := (W.edge i (by simpa using h)).1 (ng q) (List.mem_map_of_mem hq)
    unfold Lf at this
    simpa only [List.getElem_map, sd_ng, ple_ng] using this
  · have := (W.edge i (by simpa using h)).2
    simpa only [List.getElem_map, plt_ng] using this
  · have := W.turn i (by simpa using h)
    simpa only [List.getElem_map, sd_ng] using this
  · have := W.first (by simpa using h) (ng q) (List.mem_map_of_mem hq)
    simpa only [List.getElem_map, ple_ng] using this
  · have := W.last (by simpa using h) (ng q) (List.mem_map_of_mem hq)
    simpa only [List.getElem_map, List.length_map, ple_ng] using this
  · have := W.sub (ng p) (List.mem_map_of_mem hp)
    obtain ⟨r, hr, e⟩ := List.mem_map.1 this
    rw [← ng_ng p, ← e, ng_ng]; exact hr

def lowerC (ps : List Pt) : List Pt := (chainR ps).reverse
def upperC (ps : List Pt) : List Pt := (chainR ps.reverse).reverse

theorem lower_ok {ps : List Pt} (h : Ordered ps) : Way ps (lowerC ps) := way_of_chain (chain_ok ps h)

theorem upper_ok {ps : List Pt} (h : Ordered ps) : Back ps (upperC ps) := by
  apply back_of_way
  have hO : Ordered (ps.reverse.map ng) := by
    unfold Ordered at *
    rw [List.pairwise_map, List.pairwise_reverse]
    exact h.imp fun hab => (plt_ng _ _).2 hab
  have W := way_of_chain (chain_ok _ hO)
  rw [chainR_ng] at W
  have e : (upperC ps).map ng = (List.map ng (chainR ps.reverse)).reverse := by unfold upperC; rw [List.map_reverse]
  rw [e]
  refine ⟨fun i h => ⟨fun q hq => (W.edge i h).1 q (by simpa using hq), (W.edge i h).2⟩, W.turn, fun h q hq => W.first h q (by simpa using hq), fun h q hq => W.last h q (by simpa using hq), fun h => W.ne (by simpa using h), fun p hp => by simpa using W.sub p hp⟩

end Go.Proofs.YtgpapegpdfonpaaGreatDoor

namespace Go.Proofs.YtgpapegpdfonpaaGreatDoor
set_option linter.unusedVariables false
set_option linter.unusedSimpArgs false

def hullP (ps : List Pt) : List Pt := if ps.length < 2 then ps else (lowerC ps).dropLast ++ (upperC ps).dropLast

theorem sd_rot (a b c : Pt) : sd b c a = sd a b c := by unfold sd; grind
theorem sd_swap (a b c : Pt) : sd b a c = - sd a b c := by unfold sd; grind

/-- The two chains of points in order, two at least. -/
structure Two (S Lw U : List Pt) (m k : Nat) : Prop where
  way : Way S Lw
  back : Back S U
  lm : Lw.length = m + 1
  lk : U.length = k + 1
  m1 : 1 ≤ m
  k1 : 1 ≤ k
  top : Lw[m]? = U[0]?
  bot : Lw[0]? = U[k]?

theorem two_of {ps : List Pt} (h : Ordered ps) (h2 : 2 ≤ ps.length) : ∃ m k, Two ps (lowerC ps) (upperC ps) m k := by
  have W := lower_ok h; have B := upper_ok h
  have hne : ps ≠ [] := by intro e; subst e; simp at h2
  have l1 : 0 < (lowerC ps).length := List.length_pos_iff.2 (W.ne hne)
  have u1 : 0 < (upperC ps).length := List.length_pos_iff.2 (B.ne hne)
  -- the least and the greatest
  have hlt : plt ps[0] ps[1] := List.pairwise_iff_getElem.1 h 0 1 (by omega) (by omega) (by omega)
  have min1 := W.first l1; have max1 := W.last (by omega); have max2 := B.first u1; have min2 := B.last (by omega)
  have eTop : (lowerC ps)[(lowerC ps).length - 1]'(by omega) = (upperC ps)[0]'u1 := ple_antisymm (max2 _ (W.sub _ (List.getElem_mem _))) (max1 _ (B.sub _ (List.getElem_mem _)))
  have eBot : (lowerC ps)[0]'l1 = (upperC ps)[(upperC ps).length - 1]'(by omega) := ple_antisymm (min1 _ (B.sub _ (List.getElem_mem _))) (min2 _ (W.sub _ (List.getElem_mem _)))
  have neq : (lowerC ps)[0]'l1 ≠ (lowerC ps)[(lowerC ps).length - 1]'(by omega) := by
    intro e
    have a1 := min1 _ (List.getElem_mem (n := 1) (l := ps) (by omega))
    have a2 := max1 _ (List.getElem_mem (n := 0) (l := ps) (by omega))
    have b1 := max1 _ (List.getElem_mem (n := 1) (l := ps) (by omega))
    have b2 := min1 _ (List.getElem_mem (n := 0) (l := ps) (by omega))
    rw [e] at a1 b2
    have e1 := ple_antisymm a1 b1
    have e2 := ple_antisymm b2 a2
    rw [← e1, ← e2] at hlt
    exact plt_irrefl _ hlt
  have lm : 2 ≤ (lowerC ps).length := by
    rcases Nat.lt_or_ge 1 (lowerC ps).length with k | k
    · exact k
    · exfalso; apply neq; congr 1; omega
  have lk : 2 ≤ (upperC ps).length := by
    rcases Nat.lt_or_ge 1 (upperC ps).length with k | k
    · exact k
    · exfalso; apply neq; rw [eBot, eTop]; congr 1; omega
  refine ⟨(lowerC ps).length - 1, (upperC ps).length - 1, W, B, by omega, by omega, by omega, by omega, ?_, ?_⟩
  · rw [List.getElem?_eq_getElem (by omega), List.getElem?_eq_getElem u1, eTop]
  · rw [List.getElem?_eq_getElem l1, List.getElem?_eq_getElem (by omega), eBot]

section
variable {S Lw U : List Pt} {m k : Nat}

def cyc (Lw U : List Pt) : List Pt := Lw.dropLast ++ U.dropLast
def at' (H : List Pt) (i : Nat) : Pt := H.getD i (0, 0)

theorem Two.len (T : Two S Lw U m k) : (cyc Lw U).length = m + k := by simp [cyc, T.lm, T.lk]

theorem Two.atL (T : Two S Lw U m k) {i : Nat} (h : i < m) : (cyc Lw U)[i]? = Lw[i]? := by
  have := T.lm
  unfold cyc
  rw [List.getElem?_append_left (by simp; omega), List.getElem?_dropLast, if_pos (by omega)]
theorem Two.atU (T : Two S Lw U m k) {i : Nat} (h : m ≤ i) (h2 : i < m + k) : (cyc Lw U)[i]? = U[i - m]? := by
  have := T.lm; have := T.lk
  unfold cyc
  rw [List.getElem?_append_right (by simp; omega)]
  simp only [List.length_dropLast, T.lm, Nat.add_sub_cancel]
  rw [List.getElem?_dropLast, if_pos (by omega)]

/-- Two corners that follow each other are two of one chain. -/
theorem Two.next (T : Two S Lw U m k) {i : Nat} (h : i < m + k) :
    (i < m ∧ (cyc Lw U)[i]? = Lw[i]? ∧ (cyc Lw U)[(i + 1) % (m + k)]? = Lw[i + 1]?) ∨ (m ≤ i ∧ (cyc Lw U)[i]? = U[i - m]? ∧ (cyc Lw U)[(i + 1) % (m + k)]? = U[i - m + 1]?) := by
  have m1 := T.m1; have k1 := T.k1
  rcases Nat.lt_or_ge i m with hi | hi
  · refine .inl ⟨hi, T.atL hi, ?_⟩
    rw [Nat.mod_eq_of_lt (by omega)]
    rcases Nat.lt_or_ge (i + 1) m with hj | hj
    · exact T.atL hj
    · have e : i + 1 = m := by omega
      rw [e, T.atU (Nat.le_refl _) (by omega), Nat.sub_self, T.top]
  · refine .inr ⟨hi, T.atU hi h, ?_⟩
    rcases Nat.lt_or_ge (i + 1) (m + k) with hj | hj
    · rw [Nat.mod_eq_of_lt hj, T.atU (by omega) hj]
      congr 1; omega
    · have e : i + 1 = m + k := by omega
      rw [e, Nat.mod_self, T.atL (by omega), T.bot]
      congr 1; omega

theorem getD_of {l : List Pt} {i : Nat} {p : Pt} (h : l[i]? = some p) : at' l i = p := by simp [at', h]

theorem Two.edge (T : Two S Lw U m k) {i : Nat} (h : i < m + k) {q : Pt} (hq : q ∈ S) :
    0 < sd (at' (cyc Lw U) i) (at' (cyc Lw U) ((i + 1) % (m + k))) q ∨ (sd (at' (cyc Lw U) i) (at' (cyc Lw U) ((i + 1) % (m + k))) q = 0 ∧
      ((ple (at' (cyc Lw U) i) q ∧ ple q (at' (cyc Lw U) ((i + 1) % (m + k)))) ∨ (ple (at' (cyc Lw U) ((i + 1) % (m + k))) q ∧ ple q (at' (cyc Lw U) i)))) := by
  have lm := T.lm; have lk := T.lk
  rcases T.next h with ⟨hi, e1, e2⟩ | ⟨hi, e1, e2⟩
  · replace e1 := e1.trans (List.getElem?_eq_getElem (by omega : i < Lw.length))
    replace e2 := e2.trans (List.getElem?_eq_getElem (by omega : i + 1 < Lw.length))
    rw [getD_of e1, getD_of e2]
    rcases (T.way.edge i (by omega)).1 q hq with c | ⟨c0, c1, c2⟩
    · exact .inl c
    · exact .inr ⟨c0, .inl ⟨c1, c2⟩⟩
  · replace e1 := e1.trans (List.getElem?_eq_getElem (by omega : i - m < U.length))
    replace e2 := e2.trans (List.getElem?_eq_getElem (by omega : i - m + 1 < U.length))
    rw [getD_of e1, getD_of e2]
    rcases (T.back.edge (i - m) (by omega)).1 q hq with c | ⟨c0, c1, c2⟩
    · exact .inl c
    · exact .inr ⟨c0, .inr ⟨c2, c1⟩⟩

/-- If the chains meet along one edge all points lie on it: there are two corners. -/
theorem Two.flat (T : Two S Lw U m k) (A M : Pt) (h : ∀ q ∈ S, sd A M q = 0) (hA : A ∈ S) (hM : M ∈ S) (hne : plt A M ∨ plt M A) : m = 1 ∧ k = 1 := by
  have m1 := T.m1; have k1 := T.k1; have lm := T.lm; have lk := T.lk
  -- three points on a line through A and M are on one line
  have flat3 : ∀ p ∈ S, ∀ q ∈ S, ∀ r ∈ S, sd p q r = 0 := by
    intro p hp q hq r hr
    have e1 := h p hp; have e2 := h q hq; have e3 := h r hr
    unfold sd at *
    have key : ∀ dx dy : Int, (dx ≠ 0 ∨ dy ≠ 0) → ∀ ux uy vx vy : Int, dx * uy - dy * ux = 0 → dx * vy - dy * vx = 0 → ux * vy - uy * vx = 0 := by
      intro dx dy hd ux uy vx vy a b
      rcases hd with hd | hd
      · have : dx * (ux * vy - uy * vx) = ux * (dx * vy - dy * vx) - vx * (dx * uy - dy * ux) := by grind
        rw [a, b, Int.mul_zero, Int.mul_zero, Int.sub_zero] at this
        rcases Int.mul_eq_zero.1 this with h | h
        · exact absurd h hd
        · exact h
      · have : dy * (ux * vy - uy * vx) = uy * (dx * vy - dy * vx) - vy * (dx * uy - dy * ux) := by grind
        rw [a, b, Int.mul_zero, Int.mul_zero, Int.sub_zero] at this
        rcases Int.mul_eq_zero.1 this with h | h
        · exact absurd h hd
        · exact h
    refine key (M.1 - A.1) (M.2 - A.2) (by rcases hne with k | k <;> unfold plt at k <;> omega) (q.1 - p.1) (q.2 - p.2) (r.1 - p.1) (r.2 - p.2) ?_ ?_
    · have : (M.1 - A.1) * (q.2 - p.2) - (M.2 - A.2) * (q.1 - p.1) = ((M.1 - A.1) * (q.2 - A.2) - (M.2 - A.2) * (q.1 - A.1)) - ((M.1 - A.1) * (p.2 - A.2) - (M.2 - A.2) * (p.1 - A.1)) := by grind
      omega
    · have : (M.1 - A.1) * (r.2 - p.2) - (M.2 - A.2) * (r.1 - p.1) = ((M.1 - A.1) * (r.2 - A.2) - (M.2 - A.2) * (r.1 - A.1)) - ((M.1 - A.1) * (p.2 - A.2) - (M.2 - A.2) * (p.1 - A.1)) := by grind
      omega
  constructor
  · rcases Nat.lt_or_ge 1 m with c | c
    · exfalso
      have t := T.way.turn 0 (by omega)
      have := flat3 _ (T.way.sub _ (List.getElem_mem (n := 0) (by omega))) _ (T.way.sub _ (List.getElem_mem (n := 0 + 1) (by omega))) _ (T.way.sub _ (List.getElem_mem (n := 0 + 2) (by omega)))
      omega
    · omega
  · rcases Nat.lt_or_ge 1 k with c | c
    · exfalso
      have t := T.back.turn 0 (by omega)
      have := flat3 _ (T.back.sub _ (List.getElem_mem (n := 0) (by omega))) _ (T.back.sub _ (List.getElem_mem (n := 0 + 1) (by omega))) _ (T.back.sub _ (List.getElem_mem (n := 0 + 2) (by omega)))
      omega
    · omega

/-- where the lower chain ends and the upper begins -/
theorem Two.joinTop (T : Two S Lw U m k) (h2 : 2 < m + k) (hl : m < Lw.length) (hu : 1 < U.length) : 0 < sd (Lw[m - 1]'(by omega)) (Lw[m]'hl) (U[1]'hu) := by
  have m1 := T.m1; have k1 := T.k1; have lm := T.lm; have lk := T.lk
  have eT := T.top
  rw [List.getElem?_eq_getElem (by omega), List.getElem?_eq_getElem (by omega), Option.some.injEq] at eT
  have hA := T.way.sub _ (List.getElem_mem (l := Lw) (n := m - 1) (by omega))
  have hM := T.way.sub _ (List.getElem_mem (l := Lw) (n := m) (by omega))
  have hB := T.back.sub _ (List.getElem_mem (l := U) (n := 1) (by omega))
  have E := T.way.edge (m - 1) (by omega)
  have e : m - 1 + 1 = m := by omega
  simp only [e] at E
  have F := T.back.edge 0 (by omega)
  simp only [Nat.zero_add] at F
  rw [← eT] at F
  generalize Lw[m - 1] = A at *; generalize Lw[m] = M at *; generalize U[1] = B at *
  rcases E.1 B hB with c | ⟨c0, c1, c2⟩
  · exact c
  · exfalso
    rcases F.1 A hA with d | ⟨d0, d1, d2⟩
    · rw [sd_rot] at d; omega
    · have eq := ple_antisymm c1 d2
      subst eq
      have all : ∀ q ∈ S, sd A M q = 0 := fun q hq => by
        have a := (E.1 q hq).nonneg
        have b := F.1 q hq
        rw [sd_swap] at b
        rcases b with b | b <;> omega
      have := T.flat A M all hA hM (.inl E.2)
      omega

/-- where the upper chain ends and the lower begins -/
theorem Two.joinBot (T : Two S Lw U m k) (h2 : 2 < m + k) (hu : k < U.length) (hl : 1 < Lw.length) : 0 < sd (U[k - 1]'(by omega)) (U[k]'hu) (Lw[1]'hl) := by
  have m1 := T.m1; have k1 := T.k1; have lm := T.lm; have lk := T.lk
  have eT := T.bot
  rw [List.getElem?_eq_getElem (by omega), List.getElem?_eq_getElem (by omega), Option.some.injEq] at eT
  have hA := T.back.sub _ (List.getElem_mem (l := U) (n := k - 1) (by omega))
  have hM := T.back.sub _ (List.getElem_mem (l := U) (n := k) (by omega))
  have hB := T.way.sub _ (List.getElem_mem (l := Lw) (n := 1) (by omega))
  have E := T.back.edge (k - 1) (by omega)
  have e : k - 1 + 1 = k := by omega
  simp only [e] at E
  have F := T.way.edge 0 (by omega)
  simp only [Nat.zero_add] at F
  rw [eT] at F
  generalize U[k - 1] = A at *; generalize U[k] = M at *; generalize Lw[1] = B at *
  rcases E.1 B hB with c | ⟨c0, c1, c2⟩
  · exact c
  · exfalso
    rcases F.1 A hA with d | ⟨d0, d1, d2⟩
    · rw [sd_rot] at d; omega
    · have eq := ple_antisymm c1 d2
      subst eq
      have all : ∀ q ∈ S, sd M B q = 0 := fun q hq => by
        have a := (F.1 q hq).nonneg
        have b := E.1 q hq
        rw [sd_swap] at b
        rcases b with b | b <;> omega
      have := T.flat M B all hM hB (.inl F.2)
      omega

theorem Two.turn (T : Two S Lw U m k) (h2 : 2 < m + k) {i : Nat} (h : i < m + k) :
    0 < sd (at' (cyc Lw U) i) (at' (cyc Lw U) ((i + 1) % (m + k))) (at' (cyc Lw U) ((i + 2) % (m + k))) := by
  have m1 := T.m1; have k1 := T.k1; have lm := T.lm; have lk := T.lk
  have hj : (i + 1) % (m + k) < m + k := Nat.mod_lt _ (by omega)
  have e3 : (i + 2) % (m + k) = ((i + 1) % (m + k) + 1) % (m + k) := by rw [Nat.mod_add_mod]
  have N2 := T.next hj
  rw [← e3] at N2
  rcases T.next h with ⟨hi, e1, e2⟩ | ⟨hi, e1, e2⟩
  · replace e1 := e1.trans (List.getElem?_eq_getElem (by omega : i < Lw.length))
    replace e2 := e2.trans (List.getElem?_eq_getElem (by omega : i + 1 < Lw.length))
    rw [getD_of e1, getD_of e2]
    have ej : (i + 1) % (m + k) = i + 1 := Nat.mod_eq_of_lt (by omega)
    rw [ej] at N2
    rcases N2 with ⟨hi2, _, f2⟩ | ⟨hi2, _, f2⟩
    · replace f2 := f2.trans (List.getElem?_eq_getElem (by omega : i + 1 + 1 < Lw.length))
      rw [getD_of f2]
      exact T.way.turn i (by omega)
    · have em : i + 1 = m := by omega
      have f3 := f2.trans (List.getElem?_eq_getElem (by omega : i + 1 - m + 1 < U.length))
      rw [getD_of f3]
      have J := T.joinTop h2 (by omega) (by omega)
      have a1 : m - 1 = i := by omega
      have a2 : i + 1 - m + 1 = 1 := by omega
      simp only [em, Nat.sub_self, Nat.zero_add, a1] at J ⊢
      exact J
  · replace e1 := e1.trans (List.getElem?_eq_getElem (by omega : i - m < U.length))
    replace e2 := e2.trans (List.getElem?_eq_getElem (by omega : i - m + 1 < U.length))
    rw [getD_of e1, getD_of e2]
    rcases Nat.lt_or_ge (i + 1) (m + k) with hj' | hj'
    · have ej : (i + 1) % (m + k) = i + 1 := Nat.mod_eq_of_lt hj'
      rw [ej] at N2
      rcases N2 with ⟨hi2, _, f2⟩ | ⟨hi2, _, f2⟩
      · omega
      · replace f2 := f2.trans (List.getElem?_eq_getElem (by omega : i + 1 - m + 1 < U.length))
        rw [getD_of f2]
        have J := T.back.turn (i - m) (by omega)
        have a2 : i + 1 - m + 1 = i - m + 2 := by omega
        simp only [a2]
        exact J
    · have ei : i = m + k - 1 := by omega
      have ej : (i + 1) % (m + k) = 0 := by rw [show i + 1 = m + k by omega, Nat.mod_self]
      rw [ej] at N2
      rcases N2 with ⟨hi2, _, f2⟩ | ⟨hi2, _, f2⟩
      · replace f2 := f2.trans (List.getElem?_eq_getElem (by omega : 0 + 1 < Lw.length))
        rw [getD_of f2]
        have J := T.joinBot h2 (by omega) (by omega)
        have a1 : i - m = k - 1 := by omega
        have a2 : k - 1 + 1 = k := by omega
        simp only [a1, a2, Nat.zero_add]
        exact J
      · omega

end
end Go.Proofs.YtgpapegpdfonpaaGreatDoor

namespace Go.Proofs.YtgpapegpdfonpaaGreatDoor
set_option linter.unusedVariables false
set_option linter.unusedSimpArgs false

theorem tr_gt2 {nx ny cx cy qx qy : Int} (hn : fw nx ny) (hc : fw cx cy) (hq : fw qx qy) (h1 : 0 < nx * cy - ny * cx) (h2 : 0 ≤ cx * qy - cy * qx) : 0 < nx * qy - ny * qx := by
  have hnx := fw_x hn; have hqx := fw_x hq
  rcases hc with hc | ⟨rfl, hc⟩
  · have e : cx * (nx * qy - ny * qx) = qx * (nx * cy - ny * cx) + nx * (cx * qy - cy * qx) := by grind
    have hn' : 0 < nx := by
      rcases hn with hn | ⟨rfl, hn⟩
      · exact hn
      · have := Int.mul_pos hn hc; omega
    rcases hq with hq | ⟨rfl, hq⟩
    · have := Int.mul_pos hq h1; have := Int.mul_nonneg hnx h2
      exact pos_of_mul hc (by omega)
    · have := Int.mul_pos hn' hq; omega
  · have hn' : 0 < nx := pos_of_mul hc (by rw [Int.mul_comm]; omega)
    have hq0 : qx = 0 := by
      rcases ilt_or_ge 0 qx with k | k
      · have := Int.mul_pos hc k; omega
      · omega
    subst hq0
    have hqy : 0 < qy := by unfold fw at hq; omega
    have := Int.mul_pos hn' hqy
    omega

theorem no_both {A x B C : Pt} (h1 : plt A x) (h2 : plt x B) (h3 : plt x C) (t : 0 < sd A x B) (e1 : 0 ≤ sd x B C) (e2 : 0 ≤ sd A x C) (e3 : 0 ≤ sd C x A) : False := by
  have f1 := plt_fw h1; have f2 := plt_fw h2; have f3 := plt_fw h3
  have c0 : sd C x A = - sd A x C := by unfold sd; grind
  have c1 : sd A x B = (x.1 - A.1) * (B.2 - x.2) - (x.2 - A.2) * (B.1 - x.1) := by unfold sd; grind
  have c2 : sd A x C = (x.1 - A.1) * (C.2 - x.2) - (x.2 - A.2) * (C.1 - x.1) := by unfold sd; grind
  have := tr_gt2 f1 f2 f3 (by omega) e1
  omega

theorem Way.mono {S F : List Pt} (W : Way S F) : ∀ (d i : Nat) (h : i + d + 1 < F.length), plt (F[i]'(by omega)) (F[i + d + 1]'h) := by
  intro d
  induction d with
  | zero => intro i h; exact (W.edge i (by omega)).2
  | succ d ih => intro i h; exact plt_trans (ih i (by omega)) (W.edge (i + d + 1) (by omega)).2
theorem Back.mono {S F : List Pt} (W : Back S F) : ∀ (d i : Nat) (h : i + d + 1 < F.length), plt (F[i + d + 1]'h) (F[i]'(by omega)) := by
  intro d
  induction d with
  | zero => intro i h; exact (W.edge i (by omega)).2
  | succ d ih => intro i h; exact plt_trans (W.edge (i + d + 1) (by omega)).2 (ih i (by omega))
theorem Way.lt {S F : List Pt} (W : Way S F) {i j : Nat} (hij : i < j) (h : j < F.length) : plt (F[i]'(by omega)) (F[j]'h) := by
  have := W.mono (j - i - 1) i (by omega)
  have e : i + (j - i - 1) + 1 = j := by omega
  simp only [e] at this
  exact this
theorem Back.lt {S F : List Pt} (W : Back S F) {i j : Nat} (hij : i < j) (h : j < F.length) : plt (F[j]'h) (F[i]'(by omega)) := by
  have := W.mono (j - i - 1) i (by omega)
  have e : i + (j - i - 1) + 1 = j := by omega
  simp only [e] at this
  exact this

section
variable {S Lw U : List Pt} {m k : Nat}

theorem Two.inj (T : Two S Lw U m k) {i j : Nat} (hij : i < j) (hj : j < m + k) : (cyc Lw U)[i]? ≠ (cyc Lw U)[j]? := by
  have m1 := T.m1; have k1 := T.k1; have lm := T.lm; have lk := T.lk
  intro e
  rcases Nat.lt_or_ge j m with h | h
  · rw [T.atL h, T.atL (by omega), List.getElem?_eq_getElem (by omega), List.getElem?_eq_getElem (by omega), Option.some.injEq] at e
    have := T.way.lt hij (by omega : j < Lw.length)
    rw [e] at this
    exact plt_irrefl _ this
  · rcases Nat.lt_or_ge i m with h' | h'
    · rw [T.atU h hj, T.atL h', List.getElem?_eq_getElem (by omega), List.getElem?_eq_getElem (by omega), Option.some.injEq] at e
      have eT := T.top; have eB := T.bot
      rw [List.getElem?_eq_getElem (by omega), List.getElem?_eq_getElem (by omega), Option.some.injEq] at eT eB
      -- neither is an end
      rcases Nat.eq_zero_or_pos i with hi | hi
      · subst hi
        have := T.back.lt (by omega : j - m < k) (by omega)
        rw [← e, ← eB] at this
        exact plt_irrefl _ this
      rcases Nat.eq_zero_or_pos (j - m) with hj' | hj'
      · have := T.way.lt h' (by omega : m < Lw.length)
        simp only [hj'] at e
        rw [e, ← eT] at this
        exact plt_irrefl _ this
      have E1 := T.way.edge (i - 1) (by omega)
      have E2 := T.way.edge i (by omega)
      have E3 := T.back.edge (j - m - 1) (by omega)
      have t := T.way.turn (i - 1) (by omega)
      have a1 : i - 1 + 1 = i := by omega
      have a2 : i - 1 + 2 = i + 1 := by omega
      have a3 : j - m - 1 + 1 = j - m := by omega
      simp only [a1, a2, a3] at E1 E2 E3 t
      have sA := T.way.sub _ (List.getElem_mem (l := Lw) (n := i - 1) (by omega))
      have sC := T.back.sub _ (List.getElem_mem (l := U) (n := j - m - 1) (by omega))
      rw [← e] at E3
      generalize Lw[i - 1] = A at *; generalize Lw[i] = x at *; generalize Lw[i + 1] = B at *; generalize U[j - m - 1] = C at *
      have g3 : 0 ≤ sd C x A := by rcases E3.1 A sA with b | b <;> omega
      exact no_both E1.2 E2.2 E3.2 t (E2.1 C sC).nonneg (E1.1 C sC).nonneg g3
    · rw [T.atU h hj, T.atU h' (by omega), List.getElem?_eq_getElem (by omega), List.getElem?_eq_getElem (by omega), Option.some.injEq] at e
      have := T.back.lt (by omega : i - m < j - m) (by omega)
      rw [e] at this
      exact plt_irrefl _ this

theorem Two.sub (T : Two S Lw U m k) : ∀ p ∈ cyc Lw U, p ∈ S := by
  intro p hp
  rcases List.mem_append.1 hp with hp | hp
  · exact T.way.sub p (List.dropLast_subset _ hp)
  · exact T.back.sub p (List.dropLast_subset _ hp)
end

theorem length_le_of_nodup : ∀ (H S : List Pt), H.Nodup → (∀ p ∈ H, p ∈ S) → H.length ≤ S.length := by
  intro H
  induction H with
  | nil => intros; exact Nat.zero_le _
  | cons p H ih =>
    intro S hn hs
    have hn' := List.nodup_cons.1 hn
    have hp := hs p (by simp)
    have := ih (S.erase p) hn'.2 fun q hq => by
      have : q ≠ p := fun e => hn'.1 (e ▸ hq)
      exact (List.mem_erase_of_ne this).2 (hs q (List.mem_cons_of_mem _ hq))
    rw [List.length_erase_of_mem hp] at this
    have := List.length_pos_of_mem hp
    simp only [List.length_cons]
    omega

/-- how far beyond two points: above 0 outside, on their line -/
def dt (a b q : Pt) : Int := (q.1 - a.1) * (q.1 - b.1) + (q.2 - a.2) * (q.2 - b.2)

theorem nonpos_of_mul_sq {c x : Int} (hc : 0 < c) (h : c * c * x ≤ 0) : x ≤ 0 := by
  rcases ilt_or_ge 0 x with k | k
  · have := Int.mul_pos (Int.mul_pos hc hc) k; omega
  · exact k

theorem mul_between {a b q : Int} (h1 : a ≤ q) (h2 : q ≤ b) : (q - a) * (q - b) ≤ 0 := by
  have := Int.mul_nonneg (show 0 ≤ q - a by omega) (show 0 ≤ b - q by omega)
  have e : (q - a) * (q - b) = - ((q - a) * (b - q)) := by grind
  omega

theorem dt_between {a b q : Pt} (h0 : sd a b q = 0) (h1 : ple a q) (h2 : ple q b) : dt a b q ≤ 0 := by
  have hx1 : a.1 ≤ q.1 := by
    rcases h1 with h | h
    · unfold plt at h; omega
    · rw [h]; exact Int.le_refl _
  have hx2 : q.1 ≤ b.1 := by
    rcases h2 with h | h
    · unfold plt at h; omega
    · rw [h]; exact Int.le_refl _
  have m1 := mul_between hx1 hx2
  unfold dt
  rcases ilt_or_ge a.1 b.1 with hlt | hge
  · have e : (b.1 - a.1) * (b.1 - a.1) * ((q.2 - a.2) * (q.2 - b.2)) = (b.2 - a.2) * (b.2 - a.2) * ((q.1 - a.1) * (q.1 - b.1)) := by
      have f1 : (b.1 - a.1) * (q.2 - a.2) = (b.2 - a.2) * (q.1 - a.1) := by unfold sd at h0; omega
      have f2 : (b.1 - a.1) * (q.2 - b.2) = (b.2 - a.2) * (q.1 - b.1) := by
        have : (b.1 - a.1) * (q.2 - b.2) - (b.2 - a.2) * (q.1 - b.1) = (b.1 - a.1) * (q.2 - a.2) - (b.2 - a.2) * (q.1 - a.1) := by grind
        omega
      have : (b.1 - a.1) * (b.1 - a.1) * ((q.2 - a.2) * (q.2 - b.2)) = ((b.1 - a.1) * (q.2 - a.2)) * ((b.1 - a.1) * (q.2 - b.2)) := by grind
      rw [this, f1, f2]; grind
    have n : (b.2 - a.2) * (b.2 - a.2) * ((q.1 - a.1) * (q.1 - b.1)) ≤ 0 := by
      have s : 0 ≤ (b.2 - a.2) * (b.2 - a.2) := by
        rcases ilt_or_ge (b.2 - a.2) 0 with k | k
        · have := Int.mul_pos (show 0 < -(b.2 - a.2) by omega) (show 0 < -(b.2 - a.2) by omega)
          rw [Int.neg_mul_neg] at this; omega
        · exact Int.mul_nonneg k k
      have := Int.mul_nonneg s (show 0 ≤ -((q.1 - a.1) * (q.1 - b.1)) by omega)
      rw [Int.mul_neg] at this; omega
    have := nonpos_of_mul_sq (show 0 < b.1 - a.1 by omega) (e ▸ n)
    omega
  · have e1 : q.1 = a.1 := by omega
    have e2 : q.1 = b.1 := by omega
    have hy1 : a.2 ≤ q.2 := by
      rcases h1 with h | h
      · unfold plt at h; omega
      · rw [h]; exact Int.le_refl _
    have hy2 : q.2 ≤ b.2 := by
      rcases h2 with h | h
      · unfold plt at h; omega
      · rw [h]; exact Int.le_refl _
    have := mul_between hy1 hy2
    omega

theorem dt_comm (a b q : Pt) : dt a b q = dt b a q := by unfold dt; grind

/-- What is asked of the corners of points. -/
structure HullOk (S H : List Pt) : Prop where
  edge : 1 < H.length → ∀ i, i < H.length → ∀ q ∈ S, 0 ≤ sd (at' H i) (at' H ((i + 1) % H.length)) q ∧ (sd (at' H i) (at' H ((i + 1) % H.length)) q = 0 → dt (at' H i) (at' H ((i + 1) % H.length)) q ≤ 0)
  turn : 2 < H.length → ∀ i, i < H.length → 0 < sd (at' H i) (at' H ((i + 1) % H.length)) (at' H ((i + 2) % H.length))
  first : ∀ q ∈ S, ple (at' H 0) q
  sub : ∀ p ∈ H, p ∈ S
  le : H.length ≤ S.length
  two : 1 < S.length → 1 < H.length
  one : S ≠ [] → H ≠ []
  nodup : H.Nodup

theorem hull_ok {ps : List Pt} (h : Ordered ps) : HullOk ps (hullP ps) := by
  unfold hullP
  by_cases h2 : ps.length < 2
  · rw [if_pos h2]
    refine ⟨fun k => by omega, fun k => by omega, fun q hq => ?_, fun p hp => hp, Nat.le_refl _, fun k => k, fun k => k, ?_⟩
    · match ps, h2 with
      | [p], _ => simp at hq; subst hq; exact ple_refl _
    · match ps, h2 with
      | [], _ => exact List.nodup_nil
      | [p], _ => simp
  · rw [if_neg h2]
    obtain ⟨m, k, T⟩ := two_of h (by omega)
    have m1 := T.m1; have k1 := T.k1; have lm := T.lm; have lk := T.lk
    have L := T.len
    change HullOk ps (cyc (lowerC ps) (upperC ps))
    have nd : (cyc (lowerC ps) (upperC ps)).Nodup := by
      refine List.pairwise_iff_getElem.2 fun i j hi hj hij e => T.inj hij (by omega) ?_
      rw [List.getElem?_eq_getElem hi, List.getElem?_eq_getElem hj, e]
    refine ⟨fun _ i hi q hq => ?_, fun h3 i hi => ?_, fun q hq => ?_, T.sub, length_le_of_nodup _ _ nd T.sub, fun _ => by omega, fun _ e => by rw [e] at L; simp at L; omega, nd⟩
    · rw [L] at hi ⊢
      rcases T.edge hi hq with c | ⟨c0, c | c⟩
      · exact ⟨by omega, fun e => by omega⟩
      · exact ⟨by omega, fun e => dt_between c0 c.1 c.2⟩
      · refine ⟨by omega, fun e => ?_⟩
        rw [dt_comm]
        exact dt_between (by rw [sd_swap]; omega) c.1 c.2
    · rw [L] at hi h3 ⊢
      exact T.turn h3 hi
    · have e := T.atL (i := 0) (by omega)
      replace e := e.trans (List.getElem?_eq_getElem (by omega : 0 < (lowerC ps).length))
      rw [getD_of e]
      exact T.way.first (by omega) q hq

end Go.Proofs.YtgpapegpdfonpaaGreatDoor
