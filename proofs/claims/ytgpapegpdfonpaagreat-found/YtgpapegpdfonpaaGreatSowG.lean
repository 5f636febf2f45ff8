/-
  The law for a region that draws its order, by one's own invariant, where operations are guarded.
-/
import Derived.Test.YtgpapegpdfonpaaGreatSowAll
namespace Go.Proofs.YtgpapegpdfonpaaGreat
set_option linter.unusedVariables false
set_option linter.unusedSimpArgs false
open Go.RowKit

section
variable {P : Program} {ops : Array Oper} {Q : Exit → Act → World → Prop}
/-- each guard is one of the first m operations, waited for, with a slot of the frame -/
def guardOk (ops : Array Oper) (m n : Nat) : Bool := (List.range m).all fun i => match (opAt ops i).guard with
  | none => true
  | some (j, _) => decide (j < m) && waits ops i j && (match dstOf ops j with
    | some d => decide (d < n)
    | none => false)
def wantV (v : Value) (b : Bool) : Bool := match v with
  | .bool c => c == b
  | _ => false
/-- does operation i run? -/
def wantG (ops : Array Oper) (σ : Nat → Value) (i : Nat) : Bool := match (opAt ops i).guard with
  | none => true
  | some (j, b) => wantV (σ j) b
theorem InvAt.wanted {m : Nat} {a0 a : Act} {Inv : (Nat → Bool) → (Nat → Value) → World → Prop} {σ : Nat → Value} {listed : Array Bool} {w : World} (G : InvAt ops m a0 Inv σ listed a w) (hgd : guardOk ops m a0.tmps.size = true) {i : Nat} {o : Oper}
    (him : i < m) (ho : ops[i]? = some o) (hp : ∀ j, waits ops i j = true → listed.getD j false = true) : Region.wanted o (yielded ops a.tmps) = wantG ops σ i := by
  have eo : opAt ops i = o := by simp [opAt, ho]
  have hg := List.all_eq_true.1 hgd i (List.mem_range.2 him)
  unfold Region.wanted wantG
  rw [eo] at hg ⊢
  cases hq : o.guard with
  | none => rfl
  | some q =>
    obtain ⟨j, b⟩ := q
    rw [hq] at hg
    simp only [Bool.and_eq_true, decide_eq_true_eq] at hg
    obtain ⟨⟨hj, hw⟩, hd⟩ := hg
    cases hdj : dstOf ops j with
    | none => rw [hdj] at hd; cases hd
    | some d =>
      rw [hdj] at hd
      have hat := G.laid.at' j hj (hp j hw) d hdj (by simpa using hd)
      have hy : yielded ops a.tmps j = match some (σ j) with
        | some (.bool b) => some b
        | _ => none := by
        unfold yielded
        rw [show (ops[j]?).bind (·.dst) = some d from hdj, Option.bind_some, hat]
        cases σ j <;> rfl
      simp only [hy]
      unfold wantV
      cases σ j <;> simp
theorem wpAny_invG {m : Nat} (g : GrowOk ops m) {a0 : Act} (hgd : guardOk ops m a0.tmps.size = true) (Inv : (Nat → Bool) → (Nat → Value) → World → Prop)
    (hop : ∀ i, i < m → ∀ (L : Nat → Bool) (σ : Nat → Value) (w : World), Inv L σ w → (∀ j, waits ops i j = true → L j = true) → (∀ j k, L j = true → waits ops j k = true → L k = true) → L i = false →
      (wantG ops σ i = true → GivesS P (opAt ops i) (full ops σ i a0).eval w fun v w' => Inv (fun j => if j = i then true else L j) (fun j => if j = i then v else σ j) w') ∧
      (wantG ops σ i = false → Inv (fun j => if j = i then true else L j) (fun j => if j = i then undef else σ j) w))
    (hend : ∀ (L : Nat → Bool) (σ : Nat → Value) (w : World), Inv L σ w → (∀ j, j < m → L j = true) → Rest P ops Q (ops.toList.drop m) (full ops σ m a0) w) :
    ∀ (r : Nat) (σ : Nat → Value) (listed : Array Bool) (a : Act) (w : World), r = left m listed → InvAt ops m a0 Inv σ listed a w →
      wpAny P .any ops Q (ops.size - m + r) listed a w := by
  intro r
  induction r with
  | zero =>
    intro σ listed a w hr G
    have hall := left_zero hr.symm
    have hl : listed = firsts ops.size m := by
      apply Array.ext_getElem?
      intro j
      by_cases hj : j < ops.size
      · have h1 : listed[j]? = some (listed.getD j false) := by
          have : j < listed.size := by rw [G.size]; exact hj
          simp [this]
        have h2 : (firsts ops.size m)[j]? = some (decide (j < m)) := by simp [firsts, hj]
        rw [h1, h2]
        by_cases hjm : j < m
        · rw [hall j hjm]; simp [hjm]
        · rw [G.late j (by omega)]; simp [hjm]
      · rw [Array.getElem?_eq_none (by rw [G.size]; omega), Array.getElem?_eq_none (by rw [firsts_size]; omega)]
    rw [G.laid.all g hall, hl]
    exact wpAny_tail g _ m _ _ (by omega) (Nat.le_refl _) g.le (hend _ σ w G.inv hall).out
  | succ r ih =>
    intro σ listed a w hr G
    obtain ⟨j0, hj0, hun0⟩ := left_pos (m := m) (listed := listed) (by omega)
    refine ⟨fun h0 => absurd h0 (least_ready g G.size j0 hj0 hun0), fun i hi => ?_⟩
    obtain ⟨hun, o, ho, hall⟩ := mem_ready.1 hi
    have hlt : i < ops.size := (Array.getElem?_eq_some_iff.1 ho).1
    have hin : i < listed.size := by rw [G.size]; exact hlt
    have hun' : listed.getD i false = false := by simp [hin] at hun ⊢; exact hun
    have hp : ∀ j, waits ops i j = true → listed.getD j false = true := fun j hw => by
      obtain ⟨ed, hed, hb, hon⟩ := waits_spec ho hw
      exact hon ▸ hall ed hed hb
    have him : i < m := by
      rcases Nat.lt_or_ge i m with h | h
      · exact h
      · exfalso
        rcases Nat.lt_or_eq_of_le h with h' | h'
        · obtain ⟨j, hj, hw⟩ := g.late i h' hlt
          have := hp j hw
          rw [G.late j hj] at this
          cases this
        · subst h'
          rcases g.gate with hg | hg
          · omega
          · -- all of the first m have come up
            have allup : ∀ d j, j < m → m - j ≤ d → listed.getD j false = true := by
              intro d
              induction d with
              | zero => intro j hj hd; omega
              | succ d ihd =>
                intro j hj hd
                obtain ⟨j', h1, h2, hw⟩ := hg j hj
                rcases Nat.lt_or_eq_of_le h2 with h3 | h3
                · have hl' := ihd j' h3 (by omega)
                  have hget : ops[j']? = some (ops[j']'(Nat.lt_of_lt_of_le h3 g.le)) := by simp [Nat.lt_of_lt_of_le h3 g.le]
                  obtain ⟨ed, hed, hb, hon⟩ := waits_spec hget hw
                  exact hon ▸ G.down j' _ hget hl' ed hed hb
                · subst h3; exact hp j hw
            rw [allup (m - j0) j0 hj0 (Nat.le_refl _)] at hun0
            cases hun0
    have hdn : ∀ j k, listed.getD j false = true → waits ops j k = true → listed.getD k false = true := fun j k hl hw => by
      cases hj : ops[j]? with
      | none => simp [waits, hj] at hw
      | some oj =>
        obtain ⟨ed, hed, hb, hon⟩ := waits_spec hj hw
        exact hon ▸ G.down j oj hj hl ed hed hb
    have hgv := hop i him _ σ w G.inv hp hdn hun'
    rw [show opAt ops i = o by simp [opAt, ho]] at hgv
    have key : ∀ v w', Inv (fun j => if j = i then true else listed.getD j false) (fun j => if j = i then v else σ j) w' → wpAny P .any ops Q (ops.size - m + r) (listed.setIfInBounds i true) (a.put o.dst v) w' := fun v w' hvw => by
      have hset : (listed.setIfInBounds i true).getD i false = true := by simp [hin]
      have hne : ∀ j, j ≠ i → (listed.setIfInBounds i true).getD j false = listed.getD j false := fun j hj => getD_set_ne false (Ne.symm hj)
      refine ih (fun j => if j = i then v else σ j) _ _ _ (by have := left_set him hin hun'; omega) ⟨?_, ?_, ?_, G.laid.put g him ho hun' G.size v, ?_⟩
      · simp [G.size]
      · intro j hj; rw [hne j (by omega)]; exact G.late j hj
      · intro j oj hoj hl ed hed hb
        by_cases hji : j = i
        · subst hji
          rw [ho] at hoj
          cases hoj
          exact getD_set_true (hall ed hed hb)
        · rw [hne j hji] at hl
          exact getD_set_true (G.down j oj hoj hl ed hed hb)
      · have e : (fun j => (listed.setIfInBounds i true).getD j false) = fun j => if j = i then true else listed.getD j false := by
          funext j
          by_cases hji : j = i
          · subst hji; rw [if_pos rfl]; exact hset
          · rw [if_neg hji]; exact hne j hji
        rw [e]
        exact hvw
    simp only [wpOp, ho]
    rw [G.wanted hgd him ho hp]
    by_cases hwt : wantG ops σ i = true
    · rw [if_pos hwt]
      exact .inl ((hgv.1 hwt).wp (G.laid.exec g him ho hp) key)
    · rw [if_neg hwt]
      exact key _ _ (hgv.2 (by simpa using hwt))

theorem wp_region_invG {id m : Nat} {a0 : Act} {W : World} (hm : P.follows .mixedOrders = true) (g : growOkF true ops m = true) (hgd : guardOk ops m a0.tmps.size = true) {dsts : List (Option Tmp)} (hd : (ops.toList.take m).map (·.dst) = dsts)
    (hb : inFrame dsts a0.tmps.size = true) {l : List Oper} (hl : ops.toList.drop m = l) (Inv : (Nat → Bool) → (Nat → Value) → World → Prop)
    (h0 : Inv (fun _ => false) (fun _ => undef) W.drew)
    (hop : ∀ i, i < m → ∀ (L : Nat → Bool) (σ : Nat → Value) (w : World), Inv L σ w → (∀ j, waits ops i j = true → L j = true) → (∀ j k, L j = true → waits ops j k = true → L k = true) → L i = false →
      (wantG ops σ i = true → GivesS P (opAt ops i) (env dsts σ i a0) w fun v w' => Inv (fun j => if j = i then true else L j) (fun j => if j = i then v else σ j) w') ∧
      (wantG ops σ i = false → Inv (fun j => if j = i then true else L j) (fun j => if j = i then undef else σ j) w))
    (hend : ∀ (L : Nat → Bool) (σ : Nat → Value) (w : World), Inv L σ w → (∀ j, j < m → L j = true) → Rest P ops Q l (lay dsts σ 0 a0) w) : (Code.region id ops true).wp P Q a0 W := by
  have gs := growOkF_spec g
  refine wp_region_any hm ?_
  have := wpAny_invG gs hgd Inv (fun i hi L σ w h1 h2 h3 h4 => by rw [full_env σ a0 m gs.le hd hb i (Nat.le_of_lt hi)]; exact hop i hi L σ w h1 h2 h3 h4) (fun L σ w h1 h2 => by rw [full_lay σ a0 m gs.le, hd, hl]; exact hend L σ w h1 h2) m (fun _ => undef) (Array.replicate ops.size false) a0 W.drew (left_none _ _).symm
    ⟨by simp, fun j _ => by simp [Array.getElem?_replicate]; split <;> rfl, fun j o _ h => absurd h (by simp [Array.getElem?_replicate]; split <;> simp),
     ⟨rfl, rfl, fun j _ h => absurd h (by simp [Array.getElem?_replicate]; split <;> simp), fun _ _ => rfl⟩, by
      have e : (fun j => (Array.replicate ops.size false).getD j false) = fun _ => false := by
        funext j
        simp [Array.getElem?_replicate]; split <;> rfl
      rw [e]; exact h0⟩
  have e : ops.size - m + m = ops.size := by have := gs.le; omega
  rw [e] at this
  exact this
end
end Go.Proofs.YtgpapegpdfonpaaGreat
