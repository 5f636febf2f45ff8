/-
  The corners around points, in plain numbers: a chain through points in order keeps all of them on its left.
-/
import Derived.KernelRfl
namespace Go.Proofs.YtgpapegpdfonpaaGreatDoor
set_option linter.unusedVariables false
set_option linter.unusedSimpArgs false

abbrev Pt := Int × Int

/-- on which side -/
def sd (a b c : Pt) : Int := (b.1 - a.1) * (c.2 - a.2) - (b.2 - a.2) * (c.1 - a.1)
/-- the order by X, then by Y -/
def plt (a b : Pt) : Prop := a.1 < b.1 ∨ (a.1 = b.1 ∧ a.2 < b.2)
def ple (a b : Pt) : Prop := plt a b ∨ a = b
/-- a way that leads forward -/
def fw (x y : Int) : Prop := 0 < x ∨ (x = 0 ∧ 0 < y)

theorem plt_irrefl (a : Pt) : ¬ plt a a := by unfold plt; omega
theorem plt_trans {a b c : Pt} (h : plt a b) (k : plt b c) : plt a c := by unfold plt at *; omega
theorem plt_tri (a b : Pt) : plt a b ∨ a = b ∨ plt b a := by
  unfold plt
  by_cases h : a.1 = b.1
  · by_cases k : a.2 = b.2
    · exact .inr (.inl (Prod.ext h k))
    · omega
  · omega
theorem plt_fw {a b : Pt} (h : plt a b) : fw (b.1 - a.1) (b.2 - a.2) := by unfold plt at h; unfold fw; omega
theorem ple_refl (a : Pt) : ple a a := .inr rfl
theorem ple_of_plt {a b : Pt} (h : plt a b) : ple a b := .inl h
theorem ple_trans {a b c : Pt} (h : ple a b) (k : ple b c) : ple a c := by
  rcases h with h | rfl
  · rcases k with k | rfl
    · exact .inl (plt_trans h k)
    · exact .inl h
  · exact k
theorem ple_antisymm {a b : Pt} (h : ple a b) (k : ple b a) : a = b := by
  rcases h with h | h
  · rcases k with k | k
    · exact absurd (plt_trans h k) (plt_irrefl a)
    · exact k.symm
  · exact h

theorem ilt_or_ge (a b : Int) : a < b ∨ b ≤ a := by omega
theorem neg_of_mul_neg {c x : Int} (hc : 0 < c) (h : c * x < 0) : x < 0 := by
  rcases ilt_or_ge x 0 with k | k
  · exact k
  · have := Int.mul_nonneg (Int.le_of_lt hc) k; omega
theorem pos_of_mul {c x : Int} (hc : 0 < c) (h : 0 < c * x) : 0 < x := by
  rcases ilt_or_ge 0 x with k | k
  · exact k
  · have := Int.mul_nonneg (Int.le_of_lt hc) (show 0 ≤ -x by omega); rw [Int.mul_neg] at this; omega
theorem nonneg_of_mul {c x : Int} (hc : 0 < c) (h : 0 ≤ c * x) : 0 ≤ x := by
  rcases ilt_or_ge x 0 with k | k
  · have := Int.mul_pos hc (show 0 < -x by omega); rw [Int.mul_neg] at this; omega
  · exact k

theorem fw_x {x y : Int} (h : fw x y) : 0 ≤ x := by unfold fw at h; omega

theorem tr_ge {nx ny cx cy qx qy : Int} (hn : fw nx ny) (hc : fw cx cy) (hq : fw qx qy) (h1 : 0 ≤ nx * cy - ny * cx) (h2 : 0 ≤ cx * qy - cy * qx) : 0 ≤ nx * qy - ny * qx := by
  have hnx := fw_x hn; have hqx := fw_x hq
  rcases hc with hc | ⟨rfl, hc⟩
  · have e : cx * (nx * qy - ny * qx) = qx * (nx * cy - ny * cx) + nx * (cx * qy - cy * qx) := by grind
    have := Int.mul_nonneg hqx h1; have := Int.mul_nonneg hnx h2
    exact nonneg_of_mul hc (by omega)
  · have h3 : cy * qx ≤ 0 := by omega
    have hq0 : qx = 0 := by
      rcases ilt_or_ge 0 qx with k | k
      · have := Int.mul_pos hc k; omega
      · omega
    subst hq0
    have hqy : 0 < qy := by unfold fw at hq; omega
    have := Int.mul_nonneg hnx (Int.le_of_lt hqy)
    omega

theorem tr_gt {nx ny cx cy qx qy : Int} (hn : fw nx ny) (hc : fw cx cy) (hq : fw qx qy) (h1 : 0 ≤ nx * cy - ny * cx) (h2 : 0 < cx * qy - cy * qx) : 0 < nx * qy - ny * qx := by
  have hqx := fw_x hq
  rcases hc with hc | ⟨rfl, hc⟩
  · have e : cx * (nx * qy - ny * qx) = qx * (nx * cy - ny * cx) + nx * (cx * qy - cy * qx) := by grind
    rcases hn with hn | ⟨rfl, hn⟩
    · have := Int.mul_nonneg hqx h1; have := Int.mul_pos hn h2
      exact pos_of_mul hc (by omega)
    · have := Int.mul_pos hn hc; omega
  · have := Int.mul_nonneg (Int.le_of_lt hc) hqx; omega

/-- 0 < sd z a b, 0 < sd a b n, in order: 0 < sd z a n -/
theorem turn_on {z a b n : Pt} (h1 : plt z a) (h2 : plt a b) (h3 : plt b n) (t1 : 0 < sd z a b) (t2 : 0 < sd a b n) : 0 < sd z a n := by
  have f1 := plt_fw h1; have f2 := plt_fw h2; have f3 := plt_fw h3
  have c1 : 0 < (a.1 - z.1) * (b.2 - a.2) - (a.2 - z.2) * (b.1 - a.1) := by
    have : sd z a b = (a.1 - z.1) * (b.2 - a.2) - (a.2 - z.2) * (b.1 - a.1) := by unfold sd; grind
    omega
  have c2 : 0 < (b.1 - a.1) * (n.2 - b.2) - (b.2 - a.2) * (n.1 - b.1) := by
    have : sd a b n = (b.1 - a.1) * (n.2 - b.2) - (b.2 - a.2) * (n.1 - b.1) := by unfold sd; grind
    omega
  have c3 := tr_gt f1 f2 f3 (by omega) c2
  have : sd z a n = ((a.1 - z.1) * (b.2 - a.2) - (a.2 - z.2) * (b.1 - a.1)) + ((a.1 - z.1) * (n.2 - b.2) - (a.2 - z.2) * (n.1 - b.1)) := by unfold sd; grind
  omega

/-- of points ahead of b: left of a to b, n strictly left: then strictly left of b to n -/
theorem left_behind {a b n q : Pt} (h1 : plt a b) (h2 : plt b n) (h3 : plt q b) (t1 : 0 ≤ sd a b q) (t2 : 0 < sd a b n) : 0 < sd b n q := by
  have f1 := plt_fw h1; have f2 := plt_fw h2; have f3 := plt_fw h3
  have c1 : 0 ≤ (b.1 - q.1) * (b.2 - a.2) - (b.2 - q.2) * (b.1 - a.1) := by
    have : sd a b q = (b.1 - q.1) * (b.2 - a.2) - (b.2 - q.2) * (b.1 - a.1) := by unfold sd; grind
    omega
  have c2 : 0 < (b.1 - a.1) * (n.2 - b.2) - (b.2 - a.2) * (n.1 - b.1) := by
    have : sd a b n = (b.1 - a.1) * (n.2 - b.2) - (b.2 - a.2) * (n.1 - b.1) := by unfold sd; grind
    omega
  have c3 := tr_gt f3 f1 f2 c1 c2
  have : sd b n q = (b.1 - q.1) * (n.2 - b.2) - (b.2 - q.2) * (n.1 - b.1) := by unfold sd; grind
  omega

/-- where b goes: what was left of a to b is left of a to n, if n is not left of a to b -/
theorem left_popped {a b n q : Pt} (h1 : plt a b) (h2 : plt a n) (h3 : plt a q) (t1 : 0 ≤ sd a b q) (t2 : sd a b n ≤ 0) : 0 ≤ sd a n q := by
  have f1 := plt_fw h1; have f2 := plt_fw h2; have f3 := plt_fw h3
  have c1 : 0 ≤ (n.1 - a.1) * (b.2 - a.2) - (n.2 - a.2) * (b.1 - a.1) := by
    have : sd a b n = - ((n.1 - a.1) * (b.2 - a.2) - (n.2 - a.2) * (b.1 - a.1)) := by unfold sd; grind
    omega
  exact tr_ge f2 f1 f3 c1 t1

/-! ### the chain -/

/-- q lies left of a to b, or between them -/
def Lf (a b q : Pt) : Prop := 0 < sd a b q ∨ (sd a b q = 0 ∧ ple a q ∧ ple q b)

theorem Lf.nonneg {a b q : Pt} (h : Lf a b q) : 0 ≤ sd a b q := by rcases h with h | h <;> omega

/-- what is taken away ahead of n (the last that was kept stands first) -/
def popTo (n : Pt) : List Pt → List Pt
  | b :: a :: t => if sd a b n ≤ 0 then popTo n (a :: t) else b :: a :: t
  | l => l
def chainR (ps : List Pt) : List Pt := ps.foldl (fun st n => n :: popTo n st) []

/-- the edges of what is kept: each in order, all of S on its left -/
def Edges (S : List Pt) : List Pt → Prop
  | b :: a :: t => (∀ q ∈ S, Lf a b q) ∧ plt a b ∧ Edges S (a :: t)
  | _ => True
def Turns : List Pt → Prop
  | c :: b :: a :: t => 0 < sd a b c ∧ Turns (b :: a :: t)
  | _ => True
/-- the one that was kept first is the least -/
def Bot (S : List Pt) : List Pt → Prop
  | [] => True
  | [z] => ∀ q ∈ S, ple z q
  | _ :: b :: t => Bot S (b :: t)

theorem edges_cons (S : List Pt) (n : Pt) : ∀ (st : List Pt), Edges S st → (∀ b a t, st = b :: a :: t → 0 < sd a b n) → Turns st → (∀ b t, st = b :: t → plt b n) → Edges (S ++ [n]) st := by
  intro st
  induction st with
  | nil => intros; trivial
  | cons b t ih =>
    intro hE h1 hT hn
    cases t with
    | nil => trivial
    | cons a t =>
      obtain ⟨e1, e2, e3⟩ := hE
      have hbn := hn b _ rfl
      have hab := h1 b a t rfl
      refine ⟨fun q hq => ?_, e2, ih e3 ?_ ?_ ?_⟩
      · rcases List.mem_append.1 hq with hq | hq
        · exact e1 q hq
        · rw [List.mem_singleton] at hq; subst hq; exact .inl hab
      · intro b' a' t' e
        cases e
        exact turn_on e3.2.1 e2 hbn hT.1 hab
      · cases t with
        | nil => trivial
        | cons => exact hT.2
      · intro b' t' e
        cases e
        exact plt_trans e2 hbn

/-- what stands behind taking away -/
structure Popped (S : List Pt) (n : Pt) (st' : List Pt) : Prop where
  ne : st' ≠ []
  edges : Edges S st'
  turns : Turns st'
  bot : Bot S st'
  top : ∀ b t, st' = b :: t → plt b n ∧ ∀ q ∈ S, Lf b n q
  last : ∀ b a t, st' = b :: a :: t → 0 < sd a b n

theorem pop_ok (S : List Pt) (n : Pt) (hn : ∀ q ∈ S, plt q n) : ∀ (st : List Pt), st ≠ [] → Edges S st → Turns st → Bot S st → (∀ b t, st = b :: t → plt b n ∧ ∀ q ∈ S, plt b q → 0 ≤ sd b n q) → Popped S n (popTo n st) := by
  intro st
  induction st with
  | nil => intro h; exact absurd rfl h
  | cons b t ih =>
    intro _ hE hT hB hQ
    obtain ⟨hbn, hQ'⟩ := hQ b t rfl
    cases t with
    | nil =>
      refine ⟨by simp [popTo], trivial, trivial, hB, ?_, ?_⟩
      · intro b' t' e
        cases e
        refine ⟨hbn, fun q hq => ?_⟩
        rcases hB q hq with h | h
        · have := hQ' q hq h
          rcases ilt_or_ge 0 (sd b n q) with k | k
          · exact .inl k
          · exact .inr ⟨by omega, .inl h, .inl (hn q hq)⟩
        · subst h
          exact .inr ⟨by unfold sd; grind, ple_refl _, .inl hbn⟩
      · intro b' a' t' e; cases e
    | cons a t =>
      obtain ⟨e1, e2, e3⟩ := hE
      unfold popTo
      by_cases hp : sd a b n ≤ 0
      · rw [if_pos hp]
        refine ih (by simp) e3 ?_ hB ?_
        · cases t with
          | nil => trivial
          | cons => exact hT.2
        · intro b' t' e
          cases e
          exact ⟨plt_trans e2 hbn, fun q hq haq => left_popped e2 (plt_trans e2 hbn) haq (e1 q hq).nonneg hp⟩
      · rw [if_neg hp]
        refine ⟨by simp, ⟨e1, e2, e3⟩, hT, hB, ?_, ?_⟩
        · intro b' t' e
          cases e
          refine ⟨hbn, fun q hq => ?_⟩
          rcases plt_tri b q with h | h | h
          · have := hQ' q hq h
            rcases ilt_or_ge 0 (sd b n q) with k | k
            · exact .inl k
            · exact .inr ⟨by omega, .inl h, .inl (hn q hq)⟩
          · subst h
            exact .inr ⟨by unfold sd; grind, ple_refl _, .inl hbn⟩
          · exact .inl (left_behind e2 hbn h (e1 q hq).nonneg (by omega))
        · intro b' a' t' e
          cases e
          omega

/-- the chain through points that stand in order -/
structure Chain (S st : List Pt) : Prop where
  edges : Edges S st
  turns : Turns st
  bot : Bot S st
  ne : S ≠ [] → st ≠ []
  top : ∀ b t, st = b :: t → ∀ q ∈ S, ple q b
  sub : ∀ p ∈ st, p ∈ S

theorem popTo_sub (n : Pt) : ∀ (st : List Pt), ∀ p ∈ popTo n st, p ∈ st := by
  intro st
  induction st with
  | nil => intro p hp; simp [popTo] at hp
  | cons b t ih =>
    intro p hp
    cases t with
    | nil => simpa [popTo] using hp
    | cons a t =>
      unfold popTo at hp
      split at hp
      · exact List.mem_cons_of_mem _ (ih p hp)
      · exact hp

theorem chain_push {S st : List Pt} (C : Chain S st) (n : Pt) (hn : ∀ q ∈ S, plt q n) : Chain (S ++ [n]) (n :: popTo n st) := by
  by_cases hS : S = []
  · subst hS
    have hst : st = [] := by
      cases st with
      | nil => rfl
      | cons b t => exact absurd (C.sub b (by simp)) (by simp)
    subst hst
    refine ⟨trivial, trivial, ?_, fun _ => by simp, ?_, ?_⟩
    · intro q hq; simp at hq; subst hq; exact ple_refl _
    · intro b t e q hq; cases e; simp at hq; subst hq; exact ple_refl _
    · intro p hp; simpa [popTo] using hp
  · have P := pop_ok S n hn st (C.ne hS) C.edges C.turns C.bot fun b t e => by
      refine ⟨hn b (C.sub b (by rw [e]; simp)), fun q hq hbq => ?_⟩
      have := C.top b t e q hq
      exact absurd (ple_antisymm this (.inl hbq)) (fun e => by subst e; exact plt_irrefl _ hbq)
    have hsub : ∀ p ∈ popTo n st, p ∈ S := fun p hp => C.sub p (popTo_sub n st p hp)
    revert P hsub
    generalize popTo n st = st'
    intro P hsub
    cases st' with
    | nil => exact absurd rfl P.ne
    | cons b t =>
      obtain ⟨hbn, hL⟩ := P.top b t rfl
      refine ⟨⟨fun q hq => ?_, hbn, edges_cons S n _ P.edges P.last P.turns fun b' t' e => by cases e; exact hbn⟩, ?_, ?_, fun _ => by simp, ?_, ?_⟩
      · rcases List.mem_append.1 hq with hq | hq
        · exact hL q hq
        · rw [List.mem_singleton] at hq; subst hq
          exact .inr ⟨by unfold sd; grind, .inl hbn, ple_refl _⟩
      · cases t with
        | nil => trivial
        | cons a t => exact ⟨P.last b a t rfl, P.turns⟩
      · have : ∀ st : List Pt, st ≠ [] → (∀ p ∈ st, p ∈ S) → Bot S st → Bot (S ++ [n]) st := by
          intro st
          induction st with
          | nil => intro h; exact absurd rfl h
          | cons x t ih =>
            intro _ hs hB
            cases t with
            | nil =>
              intro q hq
              rcases List.mem_append.1 hq with hq | hq
              · exact hB q hq
              · rw [List.mem_singleton] at hq; subst hq
                exact .inl (hn x (hs x (by simp)))
            | cons y t => exact ih (by simp) (fun p hp => hs p (List.mem_cons_of_mem _ hp)) hB
        exact this (b :: t) (by simp) hsub P.bot
      · intro b' t' e q hq
        cases e
        rcases List.mem_append.1 hq with hq | hq
        · exact .inl (hn q hq)
        · rw [List.mem_singleton] at hq; subst hq; exact ple_refl _
      · intro p hp
        rcases List.mem_cons.1 hp with hp | hp
        · subst hp; simp
        · exact List.mem_append_left _ (hsub p hp)

/-- points in order -/
def Ordered : List Pt → Prop := List.Pairwise plt

theorem chain_ok (ps : List Pt) (h : Ordered ps) : Chain ps (chainR ps) := by
  have key : ∀ (ps S st : List Pt), Chain S st → (∀ q ∈ S, ∀ p ∈ ps, plt q p) → Ordered ps → Chain (S ++ ps) (ps.foldl (fun st n => n :: popTo n st) st) := by
    intro ps
    induction ps with
    | nil => intro S st C _ _; simpa using C
    | cons p ps ih =>
      intro S st C hS hO
      have hO' := List.pairwise_cons.1 hO
      have := ih (S ++ [p]) _ (chain_push C p fun q hq => hS q hq p (by simp)) (fun q hq r hr => by
        rcases List.mem_append.1 hq with hq | hq
        · exact hS q hq r (List.mem_cons_of_mem _ hr)
        · rw [List.mem_singleton] at hq; subst hq; exact hO'.1 r hr) hO'.2
      simpa using this
  have := key ps [] [] ⟨trivial, trivial, trivial, fun h => absurd rfl h, fun b t e => (by cases e), fun p hp => (by cases hp)⟩ (fun q hq => (by cases hq)) h
  simpa [chainR] using this

end Go.Proofs.YtgpapegpdfonpaaGreatDoor
