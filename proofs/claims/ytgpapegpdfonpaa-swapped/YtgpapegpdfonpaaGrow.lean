/-
  A law of our own for a region that draws its order: where the operations ahead of its last stores only make memory (loads, calls, new variables), the walk may take them in the order of the text, the blocks that they make under letters, and go on with the stores.
-/
import Derived.Orders
import Derived.Tactics
import Derived.Below
namespace Go.Proofs.Ytgpapegpdfonpaa
set_option linter.unusedVariables false
set_option linter.unusedSimpArgs false
open Go.RowKit

/-- What an operation gives, by its operands alone: a value and a world; no panic. -/
def GivesRaw (P : Program) (o : Oper) (ρ : Operand → Value) (w : World) (R : Value → World → Prop) : Prop :=
  match (execOp ρ o).run P w with
  | .ok (.value v) w' => R v w'
  | .ok (.enter f args) w' => Calls P f args w' fun e w'' => ∃ v, e = .returned v ∧ R v w''
  | _ => False
/-- The same behind a door: no tactic that looks at a goal runs the program. -/
structure Gives (P : Program) (o : Oper) (ρ : Operand → Value) (w : World) (R : Value → World → Prop) : Prop where
  out : GivesRaw P o ρ w R
/-- The rest of a region, behind a door. -/
structure Rest (P : Program) (ops : Array Oper) (Q : Exit → Act → World → Prop) (l : List Oper) (a : Act) (w : World) : Prop where
  out : wpList P ops Q l a w

theorem Gives.value {P : Program} {o : Oper} {ρ : Operand → Value} {w : World} {R : Value → World → Prop} (v : Value) (w' : World)
    (h : (execOp ρ o).run P w = .ok (.value v) w') (hR : R v w') : Gives P o ρ w R := by
  refine ⟨?_⟩; unfold GivesRaw; rw [h]; exact hR
theorem Gives.call {P : Program} {o : Oper} {ρ : Operand → Value} {w : World} {R : Value → World → Prop} (f : FuncId) (args : Array Value)
    (h : (execOp ρ o).run P w = .ok (.enter f args) w) (hR : Calls P f args w fun e w'' => ∃ v, e = .returned v ∧ R v w'') : Gives P o ρ w R := by
  refine ⟨?_⟩; unfold GivesRaw; rw [h]; exact hR

theorem Gives.wp {P : Program} {o : Oper} {a : Act} {ρ : Operand → Value} {w : World} {R : Value → World → Prop} {K : Act → World → Prop} {Q : Exit → Act → World → Prop}
    (h : Gives P o ρ w R) (he : execOp a.eval o = execOp ρ o) (hK : ∀ v w', R v w' → K (a.put o.dst v) w') : Oper.wp P o a w K Q := by
  have h := h.out
  unfold GivesRaw at h
  unfold Oper.wp
  rw [he]
  generalize (execOp ρ o).run P w = r at h
  cases r with
  | ok n w' =>
    cases n <;> simp only [Oper.upon] at h ⊢
    case value v => exact hK _ _ h
    case enter f args =>
      refine Calls.mono h fun e w'' he => ?_
      obtain ⟨v, rfl, hv⟩ := he
      exact hK _ _ hv
  | halt x w' => simp at h

section
variable {P : Program} {ops : Array Oper} {Q : Exit → Act → World → Prop}

/-- operation i -/
def opAt (ops : Array Oper) (i : Nat) : Oper := (ops[i]?).getD default

/-- Does operation i wait for operation j? -/
def waits (ops : Array Oper) (i j : Nat) : Bool :=
  match ops[i]? with
  | some o => o.after.toList.any fun e => Region.binds .any e && e.on == j
  | none => false

def dstOf (ops : Array Oper) (i : Nat) : Option Tmp := (ops[i]?).bind (·.dst)

/-- the first k of n have come up -/
def firsts (n k : Nat) : Array Bool := ((List.range n).map fun i => decide (i < k)).toArray

/-- What is asked of the region: its edges lead back; of the first m operations none is guarded, none writes another's slot, none looks at a slot that one of them writes and for which it does not wait; the others wait for all of these, and for one another. -/
def growOkF (f : Bool) (ops : Array Oper) (m : Nat) : Bool :=
  decide (m ≤ ops.size) && Region.noSelect ops &&
  ((List.range ops.size).all fun i => match ops[i]? with
    | some o => o.after.all fun e => !Region.binds .any e || decide (e.on < i)
    | none => true) &&
  ((List.range m).all fun i => match ops[i]? with
    | some o => (f || o.guard.isNone) && ((List.range m).all fun j => (i == j || (match dstOf ops j with
      | some d => o.dst != some d && (waits ops i j || !(o.looksAt ops).contains d)
      | none => true)) && (i != j || (match o.dst with
      | some d => !(o.looksAt ops).contains d
      | none => true)))
    | none => false) &&
  (decide (m = ops.size) || (List.range m).all fun j => (List.range' (j + 1) (m - j)).any fun j' => waits ops j' j) &&
  ((List.range' (m + 1) (ops.size - (m + 1))).all fun i => (List.range' m (i - m)).any fun j => waits ops i j) &&
  ((List.range' m (ops.size - m)).all fun k => Region.ready .any ops (firsts ops.size k) == [k])
def growOk (ops : Array Oper) (m : Nat) : Bool := growOkF false ops m

/-- The frame behind the first k operations, in the order of the text, if operation j has given σ j. -/
def full (ops : Array Oper) (σ : Nat → Value) : Nat → Act → Act
  | 0, a => a
  | k + 1, a => (full ops σ k a).put (dstOf ops k) (σ k)

theorem size_put (a : Act) (d : Option Tmp) (v : Value) : (a.put d v).tmps.size = a.tmps.size := by
  cases d <;> simp [Act.put]
theorem defers_put (a : Act) (d : Option Tmp) (v : Value) : (a.put d v).defers = a.defers := by
  cases d <;> simp [Act.put]
theorem get_put_same (a : Act) (d : Tmp) (v : Value) (h : d < a.tmps.size) : (a.put (some d) v).tmps[d]? = some v := by
  simp [Act.put, h]
theorem get_put_ne (a : Act) (x : Option Tmp) (t : Tmp) (v : Value) (h : x ≠ some t) : (a.put x v).tmps[t]? = a.tmps[t]? := by
  cases x with
  | none => rfl
  | some d => simp only [Act.put]; rw [Array.getElem?_setIfInBounds_ne (fun e => h (by rw [e]))]

theorem size_full (ops : Array Oper) (σ : Nat → Value) (k : Nat) (a : Act) : (full ops σ k a).tmps.size = a.tmps.size := by
  induction k with
  | zero => rfl
  | succ k ih => simp only [full, size_put, ih]
theorem defers_full (ops : Array Oper) (σ : Nat → Value) (k : Nat) (a : Act) : (full ops σ k a).defers = a.defers := by
  induction k with
  | zero => rfl
  | succ k ih => simp only [full, defers_put, ih]

/-- a slot that none of the first k writes -/
theorem full_other (ops : Array Oper) (σ : Nat → Value) (k : Nat) (a : Act) (t : Tmp) (h : ∀ j, j < k → dstOf ops j ≠ some t) : (full ops σ k a).tmps[t]? = a.tmps[t]? := by
  induction k with
  | zero => rfl
  | succ k ih => simp only [full]; rw [get_put_ne _ _ _ _ (h k (by omega)), ih fun j hj => h j (by omega)]

/-- a slot that one of the first k writes -/
theorem full_at (ops : Array Oper) (σ : Nat → Value) (k : Nat) (a : Act) (t : Tmp) (j : Nat) (hj : j < k) (hd : dstOf ops j = some t) (ht : t < a.tmps.size)
    (h : ∀ i, i < k → i ≠ j → dstOf ops i ≠ some t) : (full ops σ k a).tmps[t]? = some (σ j) := by
  induction k with
  | zero => omega
  | succ k ih =>
    simp only [full]
    by_cases e : j = k
    · subst e; rw [hd]; exact get_put_same _ _ _ (by rw [size_full]; exact ht)
    · rw [get_put_ne _ _ _ _ (h k (by omega) (fun x => e x.symm))]
      exact ih (by omega) fun i hi hne => h i (by omega) hne

/-- The frame in the midst of the region. -/
structure Laid (ops : Array Oper) (m : Nat) (a0 : Act) (σ : Nat → Value) (listed : Array Bool) (a : Act) : Prop where
  size : a.tmps.size = a0.tmps.size
  defers : a.defers = a0.defers
  at' : ∀ j, j < m → listed.getD j false = true → ∀ t, dstOf ops j = some t → t < a0.tmps.size → a.tmps[t]? = some (σ j)
  other : ∀ t, (∀ j, j < m → listed.getD j false = true → dstOf ops j ≠ some t) → a.tmps[t]? = a0.tmps[t]?

theorem Act.ext' {a b : Act} (h : a.tmps = b.tmps) (hd : a.defers = b.defers) : a = b := by
  cases a; cases b; simp_all

structure GrowOk (ops : Array Oper) (m : Nat) : Prop where
  le : m ≤ ops.size
  sel : Region.noSelect ops = true
  back : ∀ i o, ops[i]? = some o → ∀ e ∈ o.after, Region.binds .any e = true → e.on < i
  apart : ∀ i j, i < m → j < m → i ≠ j → ∀ d, dstOf ops j = some d → dstOf ops i ≠ some d
  looks : ∀ i j o, i < m → j < m → ops[i]? = some o → ∀ d, dstOf ops j = some d → d ∈ o.looksAt ops → waits ops i j = true
  gate : m = ops.size ∨ ∀ j, j < m → ∃ j', j < j' ∧ j' ≤ m ∧ waits ops j' j = true
  late : ∀ i, m < i → i < ops.size → ∃ j, m ≤ j ∧ waits ops i j = true
  tail : ∀ k, m ≤ k → k < ops.size → Region.ready .any ops (firsts ops.size k) = [k]

theorem growOkF_spec {f : Bool} {m : Nat} (h : growOkF f ops m = true) : GrowOk ops m := by
  simp only [growOkF, Bool.and_eq_true, decide_eq_true_eq, List.all_eq_true, List.mem_range, Bool.or_eq_true, List.mem_range'_1] at h
  obtain ⟨⟨⟨⟨⟨⟨h1, h2⟩, h3⟩, h4⟩, h5⟩, h6⟩, h7⟩ := h
  refine ⟨h1, h2, ?_, ?_, ?_, ?_, ?_, ?_⟩
  · intro i o ho e he hb
    have hi : i < ops.size := (Array.getElem?_eq_some_iff.1 ho).1
    have := h3 i hi
    rw [ho] at this
    simp only [Array.all_eq_true_iff_forall_mem] at this
    have := this e he
    simp only [hb, Bool.not_true, Bool.false_or, decide_eq_true_eq] at this
    exact this
  · intro i j hi hj hne d hd hid
    have := h4 i hi
    cases ho : ops[i]? with
    | none => rw [ho] at this; simp at this
    | some o =>
      rw [ho] at this
      simp only [Bool.and_eq_true, List.all_eq_true, List.mem_range] at this
      have := (this.2 j hj).1
      rw [hd] at this
      simp only [Bool.or_eq_true, beq_iff_eq, hne, false_or, Bool.and_eq_true, bne_iff_ne] at this
      exact this.1 (by simpa [dstOf, ho] using hid)
  · intro i j o hi hj ho d hd hl
    have := h4 i hi
    rw [ho] at this
    simp only [Bool.and_eq_true, List.all_eq_true, List.mem_range] at this
    have := this.2 j hj
    by_cases hne : i = j
    · have := this.2
      subst hne
      have hod : o.dst = some d := by simpa [dstOf, ho] using hd
      rw [hod] at this
      simp [hl] at this
    · have := this.1
      rw [hd] at this
      simp only [Bool.or_eq_true, beq_iff_eq, hne, false_or, Bool.and_eq_true, Bool.not_eq_true'] at this
      rcases this.2 with h | h
      · exact h
      · simp [hl] at h
  · rcases h5 with h | h
    · exact .inl h
    · refine .inr fun j hj => ?_
      obtain ⟨j', hm, hw⟩ := List.any_eq_true.1 (h j hj)
      rw [List.mem_range'_1] at hm
      exact ⟨j', by omega, by omega, hw⟩
  · intro i hi hn
    obtain ⟨j, hm, hw⟩ := List.any_eq_true.1 (h6 i ⟨by omega, by omega⟩)
    rw [List.mem_range'_1] at hm
    exact ⟨j, by omega, hw⟩
  · intro k hk hn
    simpa using h7 k ⟨by omega, by omega⟩

theorem growOk_spec {m : Nat} (h : growOk ops m = true) : GrowOk ops m := growOkF_spec h
theorem growOk_guard {m : Nat} (h : growOk ops m = true) : ∀ i o, i < m → ops[i]? = some o → o.guard = none := by
  simp only [growOk, growOkF, Bool.false_or, Bool.and_eq_true, decide_eq_true_eq, List.all_eq_true, List.mem_range, Bool.or_eq_true, List.mem_range'_1] at h
  obtain ⟨⟨⟨⟨⟨⟨h1, h2⟩, h3⟩, h4⟩, h5⟩, h6⟩, h7⟩ := h
  intro i o hi ho
  have := h4 i hi
  rw [ho] at this
  simp only [Bool.and_eq_true, Option.isNone_iff_eq_none] at this
  exact this.1

theorem waits_spec {i j : Nat} {o : Oper} (ho : ops[i]? = some o) (h : waits ops i j = true) : ∃ e ∈ o.after, Region.binds .any e = true ∧ e.on = j := by
  simp only [waits, ho] at h
  obtain ⟨e, he, hb⟩ := List.any_eq_true.1 h
  simp only [Bool.and_eq_true, beq_iff_eq] at hb
  exact ⟨e, Array.mem_toList_iff.1 he, hb.1, hb.2⟩

/-- What operation i looks at is the same in the frame at hand and in that of the text's order. -/
theorem Laid.exec {m : Nat} {a0 a : Act} {σ : Nat → Value} {listed : Array Bool} (L : Laid ops m a0 σ listed a) (g : GrowOk ops m) {i : Nat} {o : Oper} (hi : i < m)
    (ho : ops[i]? = some o) (hp : ∀ j, waits ops i j = true → listed.getD j false = true) : execOp a.eval o = execOp (full ops σ i a0).eval o := by
  refine execOp_congr o (fun cs b => Region.noSelect_spec g.sel i o cs b ho) fun x hx => ?_
  cases x with
  | tmp t =>
    have hl : t ∈ o.looksAt ops := List.mem_append_left _ (List.mem_filterMap.2 ⟨.tmp t, by simpa using hx, rfl⟩)
    have key : a.tmps[t]? = (full ops σ i a0).tmps[t]? := by
      by_cases hex : ∃ j, j < m ∧ dstOf ops j = some t
      · obtain ⟨j, hj, hd⟩ := hex
        have hw := g.looks i j o hi hj ho t hd hl
        have hlj := hp j hw
        obtain ⟨e, he, hb, hon⟩ := waits_spec ho hw
        have hji : j < i := hon ▸ g.back i o ho e he hb
        by_cases ht : t < a0.tmps.size
        · rw [L.at' j hj hlj t hd ht]
          rw [full_at ops σ i a0 t j hji hd ht fun k hk hne => g.apart k j (by omega) hj hne t hd]
        · rw [Array.getElem?_eq_none (by rw [L.size]; exact Nat.le_of_not_lt ht), Array.getElem?_eq_none (by rw [size_full]; exact Nat.le_of_not_lt ht)]
      · have hno : ∀ j, j < m → dstOf ops j ≠ some t := fun j hj hd => hex ⟨j, hj, hd⟩
        rw [L.other t fun j hj _ => hno j hj, full_other ops σ i a0 t fun j hj => hno j (by omega)]
    simp only [Act.eval, Array.getD_eq_getD_getElem?, key]
  | _ => rfl

theorem Laid.put {m : Nat} {a0 a : Act} {σ : Nat → Value} {listed : Array Bool} (L : Laid ops m a0 σ listed a) (g : GrowOk ops m) {i : Nat} {o : Oper} (hi : i < m)
    (ho : ops[i]? = some o) (hun : listed.getD i false = false) (hsz : listed.size = ops.size) (v : Value) :
    Laid ops m a0 (fun j => if j = i then v else σ j) (listed.setIfInBounds i true) (a.put o.dst v) := by
  have hd0 : dstOf ops i = o.dst := by simp [dstOf, ho]
  have hin : i < listed.size := by rw [hsz]; exact (Array.getElem?_eq_some_iff.1 ho).1
  have hset : (listed.setIfInBounds i true).getD i false = true := by simp [hin]
  have hne : ∀ j, j ≠ i → (listed.setIfInBounds i true).getD j false = listed.getD j false := fun j hj => getD_set_ne false (Ne.symm hj)
  refine ⟨by rw [size_put]; exact L.size, by rw [defers_put]; exact L.defers, ?_, ?_⟩
  · intro j hj hl t hd ht
    by_cases e : j = i
    · subst e
      rw [hd0] at hd
      rw [hd, if_pos rfl]
      exact get_put_same _ _ _ (by rw [L.size]; exact ht)
    · rw [if_neg e, get_put_ne _ _ _ _ (by rw [← hd0]; exact g.apart i j hi hj (Ne.symm e) t hd)]
      exact L.at' j hj (by rw [← hne j e]; exact hl) t hd ht
  · intro t h
    rw [get_put_ne _ _ _ _ (by rw [← hd0]; exact h i hi hset)]
    refine L.other t fun j hj hl => ?_
    have e : j ≠ i := fun e => by subst e; rw [hun] at hl; cases hl
    exact h j hj (by rw [hne j e]; exact hl)

theorem Laid.all {m : Nat} {a0 a : Act} {σ : Nat → Value} {listed : Array Bool} (L : Laid ops m a0 σ listed a) (g : GrowOk ops m) (h : ∀ j, j < m → listed.getD j false = true) :
    a = full ops σ m a0 := by
  refine Act.ext' (Array.ext_getElem? fun t => ?_) (by rw [L.defers, defers_full])
  by_cases hex : ∃ j, j < m ∧ dstOf ops j = some t
  · obtain ⟨j, hj, hd⟩ := hex
    by_cases ht : t < a0.tmps.size
    · rw [L.at' j hj (h j hj) t hd ht, full_at ops σ m a0 t j hj hd ht fun k hk hne => g.apart k j hk hj hne t hd]
    · rw [Array.getElem?_eq_none (by rw [L.size]; omega), Array.getElem?_eq_none (by rw [size_full]; omega)]
  · have hno : ∀ j, j < m → dstOf ops j ≠ some t := fun j hj hd => hex ⟨j, hj, hd⟩
    rw [L.other t fun j hj _ => hno j hj, full_other ops σ m a0 t hno]

theorem firsts_get (n k j : Nat) (d : Bool) (h : j < n) : (firsts n k).getD j d = decide (j < k) := by
  simp [firsts, h]
theorem firsts_size (n k : Nat) : (firsts n k).size = n := by simp [firsts]
theorem firsts_set (n k : Nat) : (firsts n k).setIfInBounds k true = firsts n (k + 1) := by
  apply Array.ext_getElem?
  intro j
  by_cases hj : j < n
  · by_cases e : k = j
    · subst e; simp [firsts, hj]
    · rw [Array.getElem?_setIfInBounds_ne e]
      simp [firsts, hj]
      omega
  · rw [Array.getElem?_eq_none (by simp [firsts]; omega), Array.getElem?_eq_none (by simp [firsts]; omega)]

theorem ready_all (n : Nat) (hn : n = ops.size) : Region.ready .any ops (firsts n n) = [] := by
  subst hn
  refine List.eq_nil_iff_forall_not_mem.2 fun j hj => ?_
  obtain ⟨h0, o, ho, _⟩ := mem_ready.1 hj
  have hlt : j < ops.size := (Array.getElem?_eq_some_iff.1 ho).1
  rw [firsts_get _ _ _ _ hlt] at h0
  simp [hlt] at h0

/-- The last operations come up in the order of the text. -/
theorem wpAny_tail {m : Nat} (g : GrowOk ops m) : ∀ (r k : Nat) (a : Act) (w : World), r = ops.size - k → m ≤ k → k ≤ ops.size → wpList P ops Q (ops.toList.drop k) a w →
    wpAny P .any ops Q r (firsts ops.size k) a w := by
  intro r
  induction r with
  | zero =>
    intro k a w hr hm hk h
    have : k = ops.size := by omega
    subst this
    rw [List.drop_eq_nil_of_le (by simp)] at h
    exact ⟨ready_all _ rfl, h⟩
  | succ r ih =>
    intro k a w hr hm hk h
    have hlt : k < ops.size := by omega
    refine ⟨fun h0 => (by rw [g.tail k hm hlt] at h0; cases h0), fun i hi => ?_⟩
    rw [g.tail k hm hlt, List.mem_singleton] at hi
    subst hi
    have hget : ops[i]? = some ops[i] := by simp [hlt]
    rw [List.drop_eq_getElem_cons (by simpa using hlt)] at h
    simp only [Array.getElem_toList, wpList] at h
    simp only [wpOp, hget]
    rw [firsts_set]
    have nx : ∀ a w, wpList P ops Q (ops.toList.drop (i + 1)) a w → wpAny P .any ops Q r (firsts ops.size (i + 1)) a w := fun a w h => ih (i + 1) a w (by omega) (by omega) (by omega) h
    split
    · rename_i hw
      rw [if_pos hw] at h
      exact h.imp (Oper.wp_mono nx) id
    · rename_i hw
      rw [if_neg hw] at h
      exact nx _ _ h

/-- how many of the first m have not come up -/
def left (m : Nat) (listed : Array Bool) : Nat := ((List.range m).filter fun j => !listed.getD j false).length

theorem left_zero {m : Nat} {listed : Array Bool} (h : left m listed = 0) : ∀ j, j < m → listed.getD j false = true := by
  intro j hj
  have := List.eq_nil_of_length_eq_zero h
  have hn := List.filter_eq_nil_iff.1 this j (List.mem_range.2 hj)
  simpa using hn

theorem left_pos {m : Nat} {listed : Array Bool} (h : left m listed ≠ 0) : ∃ j, j < m ∧ listed.getD j false = false := by
  have : ((List.range m).filter fun j => !listed.getD j false) ≠ [] := fun e => h (by unfold left; rw [e]; rfl)
  obtain ⟨j, hj⟩ := List.exists_mem_of_ne_nil _ this
  have := List.mem_filter.1 hj
  exact ⟨j, List.mem_range.1 this.1, by simpa using this.2⟩

theorem left_set {m : Nat} {listed : Array Bool} {i : Nat} (hi : i < m) (hin : i < listed.size) (hun : listed.getD i false = false) :
    left m listed = left m (listed.setIfInBounds i true) + 1 := by
  unfold left
  induction m with
  | zero => omega
  | succ m ih =>
    rw [List.range_succ, List.filter_append, List.filter_append, List.length_append, List.length_append]
    by_cases e : i = m
    · subst e
      have h1 : ([i].filter fun j => !listed.getD j false).length = 1 := by rw [List.filter_cons, hun]; rfl
      have h2 : ([i].filter fun j => !(listed.setIfInBounds i true).getD j false).length = 0 := by
        rw [List.filter_cons]; simp [hin]
      have h3 : ((List.range i).filter fun j => !(listed.setIfInBounds i true).getD j false) = (List.range i).filter fun j => !listed.getD j false := by
        refine List.filter_congr fun j hj => ?_
        have : i ≠ j := by have := List.mem_range.1 hj; omega
        rw [getD_set_ne false this]
      rw [h1, h2, h3]
    · have h1 : ([m].filter fun j => !(listed.setIfInBounds i true).getD j false) = [m].filter fun j => !listed.getD j false := by
        simp only [List.filter_cons, getD_set_ne false e, List.filter_nil]
      rw [h1, ih (by omega)]
      omega

/-- The first that has not come up may come up. -/
theorem least_ready {m : Nat} (g : GrowOk ops m) {listed : Array Bool} (hsz : listed.size = ops.size) : ∀ j, j < m → listed.getD j false = false → Region.ready .any ops listed ≠ [] := by
  intro j
  induction j using Nat.strongRecOn with
  | ind j ih =>
    intro hj hun
    by_cases hex : ∃ k, k < j ∧ listed.getD k false = false
    · obtain ⟨k, hk, hu⟩ := hex
      exact ih k hk (by omega) hu
    · intro h0
      have hlt : j < ops.size := Nat.lt_of_lt_of_le hj g.le
      have hget : ops[j]? = some ops[j] := by simp [hlt]
      have : j ∈ Region.ready .any ops listed := by
        refine mem_ready.2 ⟨?_, _, hget, fun e he hb => ?_⟩
        · have : j < listed.size := by omega
          simp [this] at hun ⊢; exact hun
        · have hback := g.back j _ hget e he hb
          cases hh : listed.getD e.on false with
          | true => rfl
          | false => exact absurd ⟨e.on, hback, hh⟩ hex
      rw [h0] at this
      cases this

structure GrowAt (ops : Array Oper) (m : Nat) (a0 : Act) (W : World) (F : Nat → Value → Nat → Nat → World → Prop) (σ : Nat → Value) (s e : Nat → Nat) (listed : Array Bool) (a : Act) (w : World) : Prop where
  size : listed.size = ops.size
  late : ∀ j, m ≤ j → listed.getD j false = false
  down : ∀ j o, ops[j]? = some o → listed.getD j false = true → ∀ ed ∈ o.after, Region.binds .any ed = true → listed.getD ed.on false = true
  laid : Laid ops m a0 σ listed a
  below : Below W.heap.size W w
  fact : ∀ j, listed.getD j false = true → F j (σ j) (s j) (e j) w ∧ e j ≤ w.heap.size ∧ W.heap.size ≤ s j
  disj : ∀ i j, i ≠ j → listed.getD i false = true → listed.getD j false = true → e i ≤ s j ∨ e j ≤ s i

theorem wpAny_grow {m : Nat} (g : GrowOk ops m) (hgd : ∀ i o, i < m → ops[i]? = some o → o.guard = none) {a0 : Act} {W : World} (F : Nat → Value → Nat → Nat → World → Prop)
    (hF : ∀ i v s e w w', F i v s e w → Below w.heap.size w w' → F i v s e w')
    (hop : ∀ i, i < m → ∀ (σ : Nat → Value) (s e : Nat → Nat) (w : World), Below W.heap.size W w → (∀ j, waits ops i j = true → F j (σ j) (s j) (e j) w) →
      Gives P (opAt ops i) (full ops σ i a0).eval w fun v w' => Below w.heap.size w w' ∧ F i v w.heap.size w'.heap.size w')
    (hend : ∀ (σ : Nat → Value) (s e : Nat → Nat) (w : World), Below W.heap.size W w → (∀ j, j < m → F j (σ j) (s j) (e j) w) → (∀ j, j < m → W.heap.size ≤ s j) → (∀ i j, i ≠ j → i < m → j < m → e i ≤ s j ∨ e j ≤ s i) →
      Rest P ops Q (ops.toList.drop m) (full ops σ m a0) w) :
    ∀ (r : Nat) (σ : Nat → Value) (s e : Nat → Nat) (listed : Array Bool) (a : Act) (w : World), r = left m listed → GrowAt ops m a0 W F σ s e listed a w →
      wpAny P .any ops Q (ops.size - m + r) listed a w := by
  intro r
  induction r with
  | zero =>
    intro σ s e listed a w hr G
    have hall := left_zero hr.symm
    have hl : listed = firsts ops.size m := by
      apply Array.ext_getElem?
      intro j
      by_cases hj : j < ops.size
      · have h1 : listed[j]? = some (listed.getD j false) := by
          have : j < listed.size := by rw [G.size]; exact hj
          simp [this]
        have h2 : (firsts ops.size m)[j]? = some (decide (j < m)) := by simp [firsts, hj]
        rw [h1, h2]
        by_cases hjm : j < m
        · rw [hall j hjm]; simp [hjm]
        · rw [G.late j (by omega)]; simp [hjm]
      · rw [Array.getElem?_eq_none (by rw [G.size]; omega), Array.getElem?_eq_none (by rw [firsts_size]; omega)]
    rw [G.laid.all g hall, hl]
    exact wpAny_tail g _ m _ _ (by omega) (Nat.le_refl _) g.le (hend σ s e w G.below (fun j hj => (G.fact j (hall j hj)).1) (fun j hj => (G.fact j (hall j hj)).2.2) (fun i j hne hi hj => G.disj i j hne (hall i hi) (hall j hj))).out
  | succ r ih =>
    intro σ s e listed a w hr G
    obtain ⟨j0, hj0, hun0⟩ := left_pos (m := m) (listed := listed) (by omega)
    refine ⟨fun h0 => absurd h0 (least_ready g G.size j0 hj0 hun0), fun i hi => ?_⟩
    obtain ⟨hun, o, ho, hall⟩ := mem_ready.1 hi
    have hlt : i < ops.size := (Array.getElem?_eq_some_iff.1 ho).1
    have hin : i < listed.size := by rw [G.size]; exact hlt
    have hun' : listed.getD i false = false := by simp [hin] at hun ⊢; exact hun
    have hp : ∀ j, waits ops i j = true → listed.getD j false = true := fun j hw => by
      obtain ⟨ed, hed, hb, hon⟩ := waits_spec ho hw
      exact hon ▸ hall ed hed hb
    have him : i < m := by
      rcases Nat.lt_or_ge i m with h | h
      · exact h
      · exfalso
        rcases Nat.lt_or_eq_of_le h with h' | h'
        · obtain ⟨j, hj, hw⟩ := g.late i h' hlt
          have := hp j hw
          rw [G.late j hj] at this
          cases this
        · subst h'
          rcases g.gate with hg | hg
          · omega
          · -- all of the first m have come up
            have allup : ∀ d j, j < m → m - j ≤ d → listed.getD j false = true := by
              intro d
              induction d with
              | zero => intro j hj hd; omega
              | succ d ihd =>
                intro j hj hd
                obtain ⟨j', h1, h2, hw⟩ := hg j hj
                rcases Nat.lt_or_eq_of_le h2 with h3 | h3
                · have hl' := ihd j' h3 (by omega)
                  have hget : ops[j']? = some (ops[j']'(Nat.lt_of_lt_of_le h3 g.le)) := by simp [Nat.lt_of_lt_of_le h3 g.le]
                  obtain ⟨ed, hed, hb, hon⟩ := waits_spec hget hw
                  exact hon ▸ G.down j' _ hget hl' ed hed hb
                · subst h3; exact hp j hw
            rw [allup (m - j0) j0 hj0 (Nat.le_refl _)] at hun0
            cases hun0
    have hgv := hop i him σ s e w G.below fun j hw => (G.fact j (hp j hw)).1
    rw [show opAt ops i = o by simp [opAt, ho]] at hgv
    simp only [wpOp, ho]
    rw [if_pos (by simp [Region.wanted, hgd i o him ho])]
    refine .inl (hgv.wp (G.laid.exec g him ho hp) fun v w' hvw => ?_)
    obtain ⟨hbw, hFi⟩ := hvw
    have hset : (listed.setIfInBounds i true).getD i false = true := by simp [hin]
    have hne : ∀ j, j ≠ i → (listed.setIfInBounds i true).getD j false = listed.getD j false := fun j hj => getD_set_ne false (Ne.symm hj)
    refine ih (fun j => if j = i then v else σ j) (fun j => if j = i then w.heap.size else s j) (fun j => if j = i then w'.heap.size else e j) _ _ _
      (by have := left_set him hin hun'; omega) ⟨?_, ?_, ?_, G.laid.put g him ho hun' G.size v, G.below.trans (hbw.mono G.below.size), ?_, ?_⟩
    · simp [G.size]
    · intro j hj; rw [hne j (by omega)]; exact G.late j hj
    · intro j oj hoj hl ed hed hb
      by_cases hji : j = i
      · subst hji
        rw [ho] at hoj
        cases hoj
        exact getD_set_true (hall ed hed hb)
      · rw [hne j hji] at hl
        exact getD_set_true (G.down j oj hoj hl ed hed hb)
    · intro j hl
      by_cases hji : j = i
      · subst hji; simp only [if_true]; exact ⟨hFi, Nat.le_refl _, G.below.size⟩
      · rw [hne j hji] at hl
        simp only [if_neg hji]
        exact ⟨hF _ _ _ _ _ _ (G.fact j hl).1 hbw, Nat.le_trans (G.fact j hl).2.1 hbw.size, (G.fact j hl).2.2⟩
    · intro x y hxy hx hy
      by_cases hxi : x = i
      · subst hxi
        have hyi : y ≠ x := Ne.symm hxy
        rw [hne y hyi] at hy
        simp only [if_true, if_neg hyi]
        exact .inr (G.fact y hy).2.1
      · rw [hne x hxi] at hx
        by_cases hyi : y = i
        · subst hyi
          simp only [if_true, if_neg hxi]
          exact .inl (G.fact x hx).2.1
        · rw [hne y hyi] at hy
          simp only [if_neg hxi, if_neg hyi]
          exact G.disj x y hxy hx hy

/-- The same frame, by the list of the slots. -/
def lay : List (Option Tmp) → (Nat → Value) → Nat → Act → Act
  | [], _, _, a => a
  | d :: ds, σ, k, a => lay ds σ (k + 1) (a.put d (σ k))

theorem lay_snoc (ds : List (Option Tmp)) (d : Option Tmp) (σ : Nat → Value) : ∀ (k : Nat) (a : Act), lay (ds ++ [d]) σ k a = (lay ds σ k a).put d (σ (k + ds.length)) := by
  induction ds with
  | nil => intro k a; rfl
  | cons x ds ih => intro k a; simp only [List.cons_append, lay, ih, List.length_cons]; rw [Nat.add_right_comm, Nat.add_assoc]

theorem full_lay (σ : Nat → Value) (a : Act) : ∀ k, k ≤ ops.size → full ops σ k a = lay ((ops.toList.take k).map (·.dst)) σ 0 a := by
  intro k
  induction k with
  | zero => intro _; simp [full, lay]
  | succ k ih =>
    intro hk
    have hlt : k < ops.size := hk
    rw [List.take_succ_eq_append_getElem (by simpa using hlt), List.map_append, List.map_cons, List.map_nil, lay_snoc, full, ih (by omega)]
    have h1 : dstOf ops k = ops.toList[k].dst := by simp [dstOf, hlt]
    have h2 : 0 + ((ops.toList.take k).map (·.dst)).length = k := by simp; omega
    rw [h1, h2]

/-- What slot t holds, by the list of the slots that were written. -/
def envT : List (Option Tmp) → (Nat → Value) → Nat → Tmp → Value → Value
  | [], _, _, _, d => d
  | x :: xs, σ, k, t, d => envT xs σ (k + 1) t (if x == some t then σ k else d)
/-- What the operands of operation i hold, if operation j has given σ j. -/
def env (dsts : List (Option Tmp)) (σ : Nat → Value) (i : Nat) (a0 : Act) : Operand → Value
  | .tmp t => envT (dsts.take i) σ 0 t (a0.tmps.getD t undef)
  | .const v => v
  | .global g => .pointer (some ⟨g, 0, none⟩)
  | .func f => .func (.func f) #[] #[]

def inFrame (dsts : List (Option Tmp)) (n : Nat) : Bool := dsts.all fun d => match d with
  | some t => decide (t < n)
  | none => true

theorem getD_put (a : Act) (x : Option Tmp) (v : Value) (t : Tmp) (h : ∀ d, x = some d → d < a.tmps.size) : (a.put x v).tmps.getD t undef = if x == some t then v else a.tmps.getD t undef := by
  by_cases e : x = some t
  · subst e
    rw [if_pos (by simp), Array.getD_eq_getD_getElem?, get_put_same a t v (h t rfl)]; rfl
  · rw [if_neg (by simpa using e), Array.getD_eq_getD_getElem?, get_put_ne a x t v e, ← Array.getD_eq_getD_getElem?]

theorem lay_getD (ds : List (Option Tmp)) (σ : Nat → Value) (t : Tmp) : ∀ (k : Nat) (a : Act), inFrame ds a.tmps.size = true → (lay ds σ k a).tmps.getD t undef = envT ds σ k t (a.tmps.getD t undef) := by
  induction ds with
  | nil => intro k a _; rfl
  | cons x ds ih =>
    intro k a h
    simp only [inFrame, List.all_cons, Bool.and_eq_true] at h
    simp only [lay, envT]
    rw [ih (k + 1) (a.put x (σ k)) (by rw [size_put]; exact h.2), getD_put]
    intro d hd
    subst hd
    simpa using h.1

theorem full_env (σ : Nat → Value) (a : Act) (m : Nat) (hm : m ≤ ops.size) {dsts : List (Option Tmp)} (hd : (ops.toList.take m).map (·.dst) = dsts) (hb : inFrame dsts a.tmps.size = true) (i : Nat) (hi : i ≤ m) :
    (full ops σ i a).eval = env dsts σ i a := by
  have e : (ops.toList.take i).map (·.dst) = dsts.take i := by rw [← hd, ← List.map_take, List.take_take, Nat.min_eq_left hi]
  funext x
  cases x with
  | tmp t =>
    show (full ops σ i a).tmps.getD t undef = envT (dsts.take i) σ 0 t (a.tmps.getD t undef)
    rw [full_lay σ a i (Nat.le_trans hi hm), e, lay_getD]
    unfold inFrame at *
    rw [List.all_eq_true] at *
    exact fun x hx => hb x (List.mem_of_mem_take hx)
  | _ => rfl

theorem left_none (n m : Nat) : left m (Array.replicate n false) = m := by
  unfold left
  rw [List.filter_eq_self.2 (by intro j _; simp [Array.getElem?_replicate]; split <;> rfl), List.length_range]

/-- THE LAW. -/
theorem wp_region_grow {id m : Nat} {a0 : Act} {W : World} (hm : P.follows .mixedOrders = true) (g : growOk ops m = true) {dsts : List (Option Tmp)} (hd : (ops.toList.take m).map (·.dst) = dsts)
    (hb : inFrame dsts a0.tmps.size = true) {l : List Oper} (hl : ops.toList.drop m = l) (F : Nat → Value → Nat → Nat → World → Prop)
    (hF : ∀ i v s e w w', F i v s e w → Below w.heap.size w w' → F i v s e w')
    (hop : ∀ i, i < m → ∀ (σ : Nat → Value) (s e : Nat → Nat) (w : World), Below W.heap.size W w → (∀ j, waits ops i j = true → F j (σ j) (s j) (e j) w) →
      Gives P (opAt ops i) (env dsts σ i a0) w fun v w' => Below w.heap.size w w' ∧ F i v w.heap.size w'.heap.size w')
    (hend : ∀ (σ : Nat → Value) (s e : Nat → Nat) (w : World), Below W.heap.size W w → (∀ j, j < m → F j (σ j) (s j) (e j) w) → (∀ j, j < m → W.heap.size ≤ s j) → (∀ i j, i ≠ j → i < m → j < m → e i ≤ s j ∨ e j ≤ s i) →
      Rest P ops Q l (lay dsts σ 0 a0) w) : (Code.region id ops true).wp P Q a0 W := by
  have gs := growOk_spec g
  refine wp_region_any hm ?_
  have := wpAny_grow gs (growOk_guard g) F hF (fun i hi σ s e w h1 h2 => by rw [full_env σ a0 m gs.le hd hb i (Nat.le_of_lt hi)]; exact hop i hi σ s e w h1 h2) (fun σ s e w h1 h2 h3 h4 => by rw [full_lay σ a0 m gs.le, hd, hl]; exact hend σ s e w h1 h2 h3 h4) m (fun _ => undef) (fun _ => 0) (fun _ => 0) (Array.replicate ops.size false) a0 W.drew (left_none _ _).symm
    ⟨by simp, fun j _ => by simp [Array.getElem?_replicate]; split <;> rfl, fun j o _ h => absurd h (by simp [Array.getElem?_replicate]; split <;> simp),
     ⟨rfl, rfl, fun j _ h => absurd h (by simp [Array.getElem?_replicate]; split <;> simp), fun _ _ => rfl⟩, (Below.refl _ _).drew,
     fun j h => absurd h (by simp [Array.getElem?_replicate]; split <;> simp), fun i j _ h => absurd h (by simp [Array.getElem?_replicate]; split <;> simp)⟩
  have e : ops.size - m + m = ops.size := by have := gs.le; omega
  rw [e] at this
  exact this

/-! ### What each kind of operation gives -/
theorem gives_load {o : Oper} {ρ : Operand → Value} {w : World} {R : Value → World → Prop} {T : TypeId} {x : Operand} {ad : Addr} {v : Value} (hop : o.op = .load T x)
    (hx : ρ x = .pointer (some ad)) (hrun : (Instr.loadAt T (.pointer (some ad))).run P w = .ok v w) (hR : R v w) : Gives P o ρ w R := by
  refine Gives.value v w ?_ hR
  simp only [execOp, hop, hx, Sem.run_bind, hrun, Result.andThen_ok, Sem.run_pure]
theorem gives_move {o : Oper} {ρ : Operand → Value} {w : World} {R : Value → World → Prop} {x : Operand} {v : Value} (hop : o.op = .move x)
    (hx : ρ x = v) (hR : R v w) : Gives P o ρ w R := by
  refine Gives.value v w ?_ hR
  simp only [execOp, hop, hx]
  rfl
theorem gives_alloc {o : Oper} {ρ : Operand → Value} {w w' : World} {R : Value → World → Prop} {T : TypeId} {v : Value} (hop : o.op = .alloc T)
    (hrun : (Instr.alloc T true (.tuple #[])).run P w = .ok v w') (hR : R v w') : Gives P o ρ w R := by
  refine Gives.value v w' ?_ hR
  simp only [execOp, hop, Sem.run_bind, hrun, Result.andThen_ok, Sem.run_pure]
theorem gives_call {o : Oper} {ρ : Operand → Value} {w : World} {R : Value → World → Prop} {f : FuncId} {xs : Array Operand} {ats : Array TypeId} {args : List Value}
    (hop : o.op = .call { callee := .value (.func f), args := xs, argTypes := ats }) (hρ : ρ (.func f) = .func (.func f) #[] #[]) (hx0 : xs.toList.map ρ = args) (hrun : (callFunc f args.toArray).run P w = .ok (.enter f args.toArray) w)
    (hR : Calls P f args.toArray w fun e w'' => ∃ v, e = .returned v ∧ R v w'') : Gives P o ρ w R := by
  refine Gives.call f args.toArray ?_ hR
  have hx : xs.map ρ = args.toArray := by apply Array.ext'; rw [Array.toList_map, hx0]
  have : execOp ρ o = callFunc f (#[] ++ xs.map ρ ++ #[]) := by
    obtain ⟨dst, op, ty, pos, after, guard⟩ := o
    simp only at hop
    subst hop
    simp only [execOp, resolve, hρ]
    rfl
  rw [this, hx, ← hrun]
  simp

theorem fl0 {p : Nat → Prop} : ∀ i, i < 0 → p i := fun _ h => by omega
theorem flS {p : Nat → Prop} {n : Nat} (h : ∀ i, i < n → p i) (hn : p n) : ∀ i, i < n + 1 → p i := fun i hi => by
  by_cases e : i = n
  · subst e; exact hn
  · exact h i (by omega)

end
end Go.Proofs.Ytgpapegpdfonpaa
