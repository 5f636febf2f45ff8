/-
  What is at hand for the walk of add: the laws for a loop over the map, the worlds behind each step.
-/
import Derived.Test.YtgpapegpdfonpaaGreatDoorJoinE
namespace Go.Proofs.YtgpapegpdfonpaaGreatDoor
set_option linter.unusedVariables false
set_option linter.unusedSimpArgs false
open Go.RowKit Go.Maps

section
variable {P : Program} {K : TypeId} (X : PairKey P K) (w : World) {ops : Array Oper} {rest : List Oper} {o : Oper} {a : Act} {Q : Exit → Act → World → Prop}
include X
theorem wpList_next_tri (hg : o.guard = none) (it : Operand) (hop : o.op = Op.next it false) (B r n : Nat) (f : Int → Int → Option Value) (left : Int → Int → Bool) (cnt : Nat)
    (hit : a.eval it = .pointer (some ⟨r, 0, none⟩)) (h : RangeIs P K w B r n f left cnt) (inv : ∀ x y v, f x y = some v → ∃ t0 t1 t2, v = triV t0 t1 t2)
    (hDone : cnt = 0 → (∀ x y, I64 x → I64 y → left x y = false) → wpList P ops Q rest (a.put o.dst (.tuple #[.bool false])) w)
    (hMore : ∀ (x y t0 t1 t2 : Int) (w' : World) (cnt' : Nat), I64 x → I64 y → left x y = true → f x y = some (triV t0 t1 t2) → RangeIs P K w' B r n f (strike left x y) cnt' → cnt' < cnt → w.grownBy w' (some r) → w'.heap.size = w.heap.size →
      (Instr.entry (.pointer (some ⟨r, 0, none⟩))).run P w' = .ok (.tuple #[.agg #[.int .i64 x, .int .i64 y], .agg #[.int .i64 t0, .int .i64 t1, .int .i64 t2]]) w' →
      wpList P ops Q rest (a.put o.dst (.tuple #[.bool true, .agg #[.int .i64 x, .int .i64 y], .agg #[.int .i64 t0, .int .i64 t1, .int .i64 t2]])) w') :
    wpList P ops Q (o :: rest) a w := by
  refine wpList_plain hg fun K' hK' => ?_
  unfold Oper.wp
  rcases h.next X o.type with ⟨h1, h2, h3⟩ | ⟨x, y, v, w', cnt', hx, hy, hl, hf, hrun, hr, hc, hgr, hs, hen⟩
  · simp [execOp, hop, hit, h3, Result.andThen]
    exact hK' _ _ (hDone h1 h2)
  · obtain ⟨t0, t1, t2, rfl⟩ := inv x y v hf
    simp [execOp, hop, hit, hrun, Result.andThen]
    exact hK' _ _ (hMore x y t0 t1 t2 w' cnt' hx hy hl hf hr hc hgr hs hen)

theorem wpList_next_unit (hg : o.guard = none) (it : Operand) (hop : o.op = Op.next it false) (B r n : Nat) (f : Int → Int → Option Value) (left : Int → Int → Bool) (cnt : Nat)
    (hit : a.eval it = .pointer (some ⟨r, 0, none⟩)) (h : RangeIs P K w B r n f left cnt) (inv : ∀ x y v, f x y = some v → v = .agg #[])
    (hDone : cnt = 0 → (∀ x y, I64 x → I64 y → left x y = false) → wpList P ops Q rest (a.put o.dst (.tuple #[.bool false])) w)
    (hMore : ∀ (x y : Int) (w' : World) (cnt' : Nat), I64 x → I64 y → left x y = true → f x y = some (.agg #[]) → RangeIs P K w' B r n f (strike left x y) cnt' → cnt' < cnt → w.grownBy w' (some r) → w'.heap.size = w.heap.size →
      (Instr.entry (.pointer (some ⟨r, 0, none⟩))).run P w' = .ok (.tuple #[.agg #[.int .i64 x, .int .i64 y], .agg #[]]) w' →
      wpList P ops Q rest (a.put o.dst (.tuple #[.bool true, .agg #[.int .i64 x, .int .i64 y], .agg #[]])) w') :
    wpList P ops Q (o :: rest) a w := by
  refine wpList_plain hg fun K' hK' => ?_
  unfold Oper.wp
  rcases h.next X o.type with ⟨h1, h2, h3⟩ | ⟨x, y, v, w', cnt', hx, hy, hl, hf, hrun, hr, hc, hgr, hs, hen⟩
  · simp [execOp, hop, hit, h3, Result.andThen]
    exact hK' _ _ (hDone h1 h2)
  · obtain rfl := inv x y v hf
    simp [execOp, hop, hit, hrun, Result.andThen]
    exact hK' _ _ (hMore x y w' cnt' hx hy hl hf hr hc hgr hs hen)
end

/-- all blocks of w but A and H are as they were -/
structure G2 (w w' : World) (A H : Nat) : Prop where
  os : w'.os = w.os
  tape : w'.tape = w.tape
  output : w'.output = w.output
  size : w.heap.size ≤ w'.heap.size
  block : ∀ i, i < w.heap.size → i ≠ A → i ≠ H → w'.heap[i]? = w.heap[i]?
theorem G2.refl (w : World) (A H : Nat) : G2 w w A H := ⟨rfl, rfl, rfl, Nat.le_refl _, fun _ _ _ _ => rfl⟩
theorem G2.grown {w w1 w2 : World} {A H : Nat} {row : Option Nat} (h : G2 w w1 A H) (g : w1.grownBy w2 row) (hr : ∀ j, row = some j → j = A ∨ j = H ∨ w.heap.size ≤ j) : G2 w w2 A H :=
  ⟨g.os.trans h.os, g.tape.trans h.tape, g.output.trans h.output, Nat.le_trans h.size g.size, fun i hi h1 h2 => (g.block i (Nat.lt_of_lt_of_le hi h.size) (fun e => by
    rcases hr i e.symm with r | r | r
    · exact h1 r
    · exact h2 r
    · omega)).trans (h.block i hi h1 h2)⟩
theorem G2.below {w w1 w2 : World} {A H M : Nat} (h : G2 w w1 A H) (g : Below M w1 w2) (hM : w1.heap.size ≤ M) : G2 w w2 A H := h.grown (below_grown g hM) (fun j hj => by cases hj)
theorem G2.trans {w w1 w2 : World} {A H : Nat} (h : G2 w w1 A H) (g : G2 w1 w2 A H) : G2 w w2 A H :=
  ⟨g.os.trans h.os, g.tape.trans h.tape, g.output.trans h.output, Nat.le_trans h.size g.size, fun i hi h1 h2 => (g.block i (Nat.lt_of_lt_of_le hi h.size) h1 h2).trans (h.block i hi h1 h2)⟩
theorem G2.cell {w w' : World} {A H : Nat} (h : G2 w w' A H) {b o : Nat} {v : Value} (hc : w.cell? ⟨b, o, none⟩ = some v) (h1 : b ≠ A) (h2 : b ≠ H) : w'.cell? ⟨b, o, none⟩ = some v := by
  have := World.cell?_of_block (w := w) (w' := w') (a := ⟨b, o, none⟩) (h.block b (cell_blk hc) h1 h2)
  rw [this]; exact hc
theorem NetAt.g2 {w w' : World} {N Bp A H : Nat} (h : NetAt w N Bp A H) (g : G2 w w' A H) (h1 : N ≠ A) (h2 : N ≠ H) : NetAt w' N Bp A H :=
  ⟨g.cell h.c0 h1 h2, g.cell h.c1 h1 h2, g.cell h.c2 h1 h2, g.cell h.c3 h1 h2⟩
theorem AskAt.g2 {w w' : World} {Bp b off cap A H : Nat} {l : List Pt} (h : AskAt w Bp b off cap l) (g : G2 w w' A H) (h1 : Bp ≠ A) (h2 : Bp ≠ H) (h3 : b ≠ A) (h4 : b ≠ H) : AskAt w' Bp b off cap l :=
  ⟨Nat.lt_of_lt_of_le h.hB g.size, Nat.lt_of_lt_of_le h.hb g.size, g.cell h.cell h1 h2, fun i hi => ⟨g.cell (h.pts i hi).1 h3 h4, g.cell (h.pts i hi).2 h3 h4⟩⟩

/-- the world behind 'delete' -/
noncomputable def delW (T A : Nat) (a b : Int) (w : World) : World := match (Builtin.delete_ #[T, 165] 0 #[.map (some A), keyv a b]).run Tryz.prog w with | .ok _ w' => w' | .halt _ w' => w'
theorem del_run {A n : Nat} {a b : Int} {f : Int → Int → Option Value} {w : World} (ha : I64 a) (hb : I64 b) {T E : TypeId} (ht : Tryz.prog.underlying T = some (.map 165 E)) (h : MapIs Tryz.prog 165 w A n f) :
    (∀ ty, (Builtin.delete_ #[T, 165] ty #[.map (some A), keyv a b]).run Tryz.prog w = .ok (.tuple #[]) (delW T A a b w)) ∧ MapIs Tryz.prog 165 (delW T A a b w) A n (upd f a b none) ∧ w.grownBy (delW T A a b w) (some A) := by
  obtain ⟨w', h1, h2, h3⟩ := h.del pairK ht ha hb 0
  have e : delW T A a b w = w' := by unfold delW; rw [h1]
  rw [e]; exact ⟨fun ty => h1, h2, h3⟩
/-- the world behind 'clear' -/
noncomputable def clearW (T A : Nat) (w : World) : World := match (Builtin.clear_ #[T] 0 #[.map (some A)]).run Tryz.prog w with | .ok _ w' => w' | .halt _ w' => w'
theorem clear_run {A n : Nat} {f : Int → Int → Option Value} {w : World} {T E : TypeId} (ht : Tryz.prog.underlying T = some (.map 165 E)) (h : MapIs Tryz.prog 165 w A n f) :
    (∀ ty, (Builtin.clear_ #[T] ty #[.map (some A)]).run Tryz.prog w = .ok (.tuple #[]) (clearW T A w)) ∧ MapIs Tryz.prog 165 (clearW T A w) A 0 (fun _ _ => none) ∧ w.grownBy (clearW T A w) (some A) := by
  obtain ⟨w', h1, h2, h3⟩ := h.clear pairK ht 0
  have e : clearW T A w = w' := by unfold clearW; rw [h1]
  rw [e]; exact ⟨fun ty => h1, h2, h3⟩
theorem zeroUnit (w : World) : (zeroValue 166).run Tryz.prog w = .ok (.agg #[]) w := by kernel_rfl

section
variable (V : Int → Vec) (Tr : Int → Int → Int → Prop) (p : Int)
/-- it cannot stay -/
def Bad (x y : Int) : Prop := ∃ z, Tr x y z ∧ 0 < kk (V x) (V y) (V z) (V p)
open Classical in
/-- what the hole holds, when what is still to come is 'left' -/
noncomputable def gOf (left : Int → Int → Bool) (x y : Int) : Option Value := if Bad V Tr p x y ∧ left x y = false then some (.agg #[]) else none
/-- what is left of the triangles -/
def TD (left : Int → Int → Bool) (x y z : Int) : Prop := Tr x y z ∧ ¬ (0 < kk (V x) (V y) (V z) (V p) ∧ left x y = false)
/-- the net, when the rim is joined as far as it is not 'left' -/
def TA (left : Int → Int → Bool) (x y z : Int) : Prop := (Tr x y z ∧ kk (V x) (V y) (V z) (V p) ≤ 0) ∨ ((Rim V Tr p x y ∧ left x y = false) ∧ z = p) ∨ ((Rim V Tr p y z ∧ left y z = false) ∧ x = p) ∨ ((Rim V Tr p z x ∧ left z x = false) ∧ y = p)
end

section
variable {V : Int → Vec} {Tr : Int → Int → Int → Prop} {p : Int} {left : Int → Int → Bool}
theorem gOf_inv {x y : Int} {v : Value} (h : gOf V Tr p left x y = some v) : v = .agg #[] := by
  unfold gOf at h; split at h
  · simpa using h.symm
  · cases h
theorem gOf_some {x y : Int} (h : gOf V Tr p left x y ≠ none) : Bad V Tr p x y := by
  unfold gOf at h; split at h
  · rename_i k; exact k.1
  · exact absurd rfl h
theorem gOf_eq {left' : Int → Int → Bool} {s t : Int} (h : left s t = left' s t) : gOf V Tr p left s t = gOf V Tr p left' s t := by
  unfold gOf
  by_cases k : Bad V Tr p s t ∧ left s t = false
  · rw [if_pos k, if_pos ⟨k.1, h ▸ k.2⟩]
  · rw [if_neg k, if_neg (fun r => k ⟨r.1, h.symm ▸ r.2⟩)]
theorem gOf_yes {x y : Int} (hb : Bad V Tr p x y) (hl : left x y = true) (s t : Int) :
    upd (gOf V Tr p left) x y (some (.agg #[])) s t = gOf V Tr p (strike left x y) s t := by
  by_cases k : s = x ∧ t = y
  · obtain ⟨rfl, rfl⟩ := k
    rw [upd_same]; unfold gOf; rw [if_pos ⟨hb, strike_same _ _ _⟩]
  · rw [upd_other _ _ k]
    exact gOf_eq (strike_other _ k).symm
theorem gOf_no {x y : Int} (hb : ¬ Bad V Tr p x y) (s t : Int) : gOf V Tr p left s t = gOf V Tr p (strike left x y) s t := by
  by_cases k : s = x ∧ t = y
  · obtain ⟨rfl, rfl⟩ := k
    unfold gOf; rw [if_neg (fun h => hb h.1), if_neg (fun h => hb h.1)]
  · exact gOf_eq (strike_other _ k).symm
theorem gOf_isSome {x y : Int} (hl : left x y = false) : (gOf V Tr p left x y).isSome = true ↔ Bad V Tr p x y := by
  unfold gOf
  by_cases h : Bad V Tr p x y
  · rw [if_pos ⟨h, hl⟩]; simp [h]
  · rw [if_neg (fun k => h k.1)]; simp [h]

theorem TD_strike (hF : Fn Tr) {x y : Int} (hb : Bad V Tr p x y) (s t z : Int) : TD V Tr p (strike left x y) s t z ↔ TD V Tr p left s t z ∧ ¬ (s = x ∧ t = y) := by
  unfold TD
  by_cases k : s = x ∧ t = y
  · obtain ⟨rfl, rfl⟩ := k
    obtain ⟨z0, h0, hk⟩ := hb
    constructor
    · rintro ⟨h, hn⟩
      have := hF _ _ _ _ h h0
      subst this
      exact absurd ⟨hk, strike_same _ _ _⟩ hn
    · rintro ⟨_, hn⟩; exact absurd ⟨rfl, rfl⟩ hn
  · rw [strike_other _ k]; simp [k]
theorem TD_fn (hF : Fn Tr) : Fn (TD V Tr p left) := fun _ _ _ _ h h' => hF _ _ _ _ h.1 h'.1
theorem rim_bad {x y : Int} (h : Rim V Tr p x y) : Bad V Tr p x y := by obtain ⟨c, d, h1, h2, _⟩ := h; exact ⟨c, h1, h2⟩
theorem rim_not (hF : Fn Tr) {x y : Int} (h : Rim V Tr p x y) : ¬ Bad V Tr p y x := by
  obtain ⟨c, d, _, _, h3, h4⟩ := h
  rintro ⟨z, hz, hk⟩
  have := hF _ _ _ _ hz h3
  subst this; omega
theorem TA_sub {x y z : Int} (h : TA V Tr p left x y z) : addTr V Tr p x y z := by
  rcases h with h | ⟨h, e⟩ | ⟨h, e⟩ | ⟨h, e⟩
  · exact .inl h
  · exact .inr (.inl ⟨h.1, e⟩)
  · exact .inr (.inr (.inl ⟨h.1, e⟩))
  · exact .inr (.inr (.inr ⟨h.1, e⟩))
theorem TA_no (hF : Fn Tr) {x y : Int} (hb : ¬ Rim V Tr p x y) (s t z : Int) : TA V Tr p (strike left x y) s t z ↔ TA V Tr p left s t z := by
  have key : ∀ u v, (Rim V Tr p u v ∧ strike left x y u v = false) ↔ (Rim V Tr p u v ∧ left u v = false) := by
    intro u v
    by_cases k : u = x ∧ v = y
    · obtain ⟨rfl, rfl⟩ := k
      exact ⟨fun h => absurd h.1 hb, fun h => absurd h.1 hb⟩
    · rw [strike_other _ k]
  unfold TA
  rw [key, key, key]
theorem TA_yes {x y : Int} (hb : Rim V Tr p x y) (s t z : Int) : TA V Tr p (strike left x y) s t z ↔ TA V Tr p left s t z ∨ rots x y p s t z := by
  have key : ∀ u v, (Rim V Tr p u v ∧ strike left x y u v = false) ↔ ((Rim V Tr p u v ∧ left u v = false) ∨ (u = x ∧ v = y)) := by
    intro u v
    by_cases k : u = x ∧ v = y
    · obtain ⟨rfl, rfl⟩ := k
      exact ⟨fun _ => .inr ⟨rfl, rfl⟩, fun _ => ⟨hb, strike_same _ _ _⟩⟩
    · rw [strike_other _ k]; exact ⟨.inl, fun h => h.resolve_right k⟩
  unfold TA rots
  rw [key, key, key]
  constructor
  · rintro (h | ⟨h | h, e⟩ | ⟨h | h, e⟩ | ⟨h | h, e⟩)
    · exact .inl (.inl h)
    · exact .inl (.inr (.inl ⟨h, e⟩))
    · exact .inr (.inl ⟨h.1, h.2, e⟩)
    · exact .inl (.inr (.inr (.inl ⟨h, e⟩)))
    · exact .inr (.inr (.inr ⟨e, h.1, h.2⟩))
    · exact .inl (.inr (.inr (.inr ⟨h, e⟩)))
    · exact .inr (.inr (.inl ⟨h.2, e, h.1⟩))
  · rintro ((h | ⟨h, e⟩ | ⟨h, e⟩ | ⟨h, e⟩) | ⟨h1, h2, h3⟩ | ⟨h1, h2, h3⟩ | ⟨h1, h2, h3⟩)
    · exact .inl h
    · exact .inr (.inl ⟨.inl h, e⟩)
    · exact .inr (.inr (.inl ⟨.inl h, e⟩))
    · exact .inr (.inr (.inr ⟨.inl h, e⟩))
    · exact .inr (.inl ⟨.inr ⟨h1, h2⟩, h3⟩)
    · exact .inr (.inr (.inr ⟨.inr ⟨h3, h1⟩, h2⟩))
    · exact .inr (.inr (.inl ⟨.inr ⟨h2, h3⟩, h1⟩))
end
end Go.Proofs.YtgpapegpdfonpaaGreatDoor
