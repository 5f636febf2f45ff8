/-
  The document's model: Is.
-/
import Derived.Test.YtejldpfcofimaaaGreatRefF
namespace Go.Proofs.YtejldpfcofimaaaGreat
set_option linter.unusedVariables false
set_option linter.unusedSimpArgs false
open Go.RowKit
attribute [local go_sem ↓] Go.wp_at_zero Go.wp_at_succ

/-- 3600 times false -/
def noneGone : Array Value := Array.replicate 3600 (.bool false)
structure GoneAt (w : World) (U : Nat) (f : Nat → Nat → Bool) : Prop where
  at_ : ∃ cur : Array Value, w.heap[U]? = some (.cells cur 116) ∧ cur.size = 3600 ∧ ∀ a b, a < 60 → b < 60 → cur[a * 60 + b]? = some (.bool (f a b))
theorem GoneAt.below {w w' : World} {U : Nat} {f : Nat → Nat → Bool} (h : GoneAt w U f) (hb : Below w.heap.size w w') : GoneAt w' U f := by
  obtain ⟨cur, h1, h2, h3⟩ := h.at_
  exact ⟨cur, (hb.block U (Array.getElem?_eq_some_iff.1 h1).1).trans h1, h2, h3⟩
theorem GoneAt.lt {w : World} {U : Nat} {f : Nat → Nat → Bool} (h : GoneAt w U f) : U < w.heap.size := by
  obtain ⟨cur, h1, _⟩ := h.at_
  exact (Array.getElem?_eq_some_iff.1 h1).1
theorem GoneAt.cell {w : World} {U : Nat} {f : Nat → Nat → Bool} (h : GoneAt w U f) {a b : Nat} (ha : a < 60) (hb : b < 60) : w.cell? ⟨U, a * 60 + b, none⟩ = some (.bool (f a b)) ∧ w.frozen? ⟨U, a * 60 + b, none⟩ = false := by
  obtain ⟨cur, h1, h2, h3⟩ := h.at_
  exact ⟨(cell_of_heap h1 _).trans (h3 a b ha hb), frozen_of_heap h1 _⟩
set_option maxRecDepth 100000 in
theorem zero_gone : Tryz.zeroCells116 = noneGone := by kernel_rfl
theorem gone_new (W : World) : GoneAt (W.alloc (.cells Tryz.zeroCells116 116)) W.heap.size (fun _ _ => false) := by
  rw [zero_gone]
  refine ⟨noneGone, by simp only [World.alloc, Array.getElem?_push_size], by simp [noneGone], fun a b ha hb => ?_⟩
  unfold noneGone
  rw [Array.getElem?_replicate, if_pos (by omega)]
theorem GoneAt.put {w : World} {U : Nat} {f : Nat → Nat → Bool} (h : GoneAt w U f) {a b : Nat} (ha : a < 60) (hb : b < 60) :
    ∃ V, w.setCell ⟨U, a * 60 + b, none⟩ (.bool true) = V ∧ GoneAt V U (fun x y => if x = a ∧ y = b then true else f x y) ∧ V.heap.size = w.heap.size ∧ (∀ N, N ≤ U → Below N w V) ∧ (∀ x o, x ≠ U → V.cell? ⟨x, o, none⟩ = w.cell? ⟨x, o, none⟩) := by
  obtain ⟨cur, h1, h2, h3⟩ := h.at_
  have k1 := heap_setCell_same w U (a * 60 + b) cur 116 (.bool true) h1
  refine ⟨_, rfl, ⟨_, k1, by simp [h2], fun x y hx hy => ?_⟩, by simp [World.setCell], fun N hN => (Below.refl _ _).setCell (p := ⟨U, a * 60 + b, none⟩) hN _, fun x o hx => ?_⟩
  · rw [Array.getElem?_setIfInBounds]
    by_cases e : x = a ∧ y = b
    · obtain ⟨rfl, rfl⟩ := e
      rw [if_pos rfl, if_pos (by omega), if_pos ⟨rfl, rfl⟩]
    · rw [if_neg (by omega), if_neg e]
      exact h3 x y hx hy
  · have q : (w.setCell ⟨U, a * 60 + b, none⟩ (.bool true)).heap[x]? = w.heap[x]? := heap_setCell_other _ _ _ _ hx
    unfold World.cell?
    rw [q]
/-- one triangle goes from a to b on its edge j -/
def edgeB (t : T3) (j a b : Nat) : Bool := nth3 t j == (a : Int) && nth3 t ((j + 1) % 3) == (b : Int)
def goesB (t : T3) (a b : Nat) : Bool := edgeB t 0 a b || edgeB t 1 a b || edgeB t 2 a b
def someB (t : T3) (k a b : Nat) : Bool := (decide (0 < k) && edgeB t 0 a b) || (decide (1 < k) && edgeB t 1 a b) || (decide (2 < k) && edgeB t 2 a b)
/-- gone along by the first i triangles and by k edges of the next one -/
def goneF (ts : List T3) (i k : Nat) : Nat → Nat → Bool := fun a b => (ts.take i).any (fun t => goesB t a b) || someB (ts.getD i (0, 0, 0)) k a b
theorem goneF_zero (ts : List T3) : goneF ts 0 0 = fun _ _ => false := by funext a b; simp [goneF, someB]
theorem someB_zero (t : T3) (a b : Nat) : someB t 0 a b = false := by simp [someB]
theorem someB_three (t : T3) (a b : Nat) : someB t 3 a b = goesB t a b := by simp [someB, goesB]
theorem goneF_next (ts : List T3) {i : Nat} (hi : i < ts.length) : goneF ts i 3 = goneF ts (i + 1) 0 := by
  funext a b
  unfold goneF
  rw [someB_three, someB_zero, List.take_succ_eq_append_getElem hi, List.any_append]
  have : ts.getD i (0, 0, 0) = ts[i] := by simp [hi]
  rw [this]
  simp
theorem someB_succ (t : T3) {k : Nat} (hk : k < 3) (a b : Nat) : someB t (k + 1) a b = (someB t k a b || edgeB t k a b) := by
  have : k = 0 ∨ k = 1 ∨ k = 2 := by omega
  rcases this with rfl | rfl | rfl <;> simp [someB]
theorem goneF_put (ts : List T3) {i k x y : Nat} (hk : k < 3) (e1 : nth3 (ts.getD i (0, 0, 0)) k = (x : Int)) (e2 : nth3 (ts.getD i (0, 0, 0)) ((k + 1) % 3) = (y : Int)) :
    (fun a b => if a = x ∧ b = y then true else goneF ts i k a b) = goneF ts i (k + 1) := by
  funext a b
  unfold goneF
  rw [someB_succ _ hk]
  unfold edgeB
  rw [e1, e2]
  by_cases h : a = x ∧ b = y
  · rw [if_pos h, h.1, h.2]; simp
  · rw [if_neg h]
    have : ((x : Int) == (a : Int) && (y : Int) == (b : Int)) = false := by
      rw [Bool.and_eq_false_iff, beq_eq_false_iff_ne, beq_eq_false_iff_ne]
      omega
    rw [this]; simp
theorem goesB_iff (t : T3) (a b : Nat) : goesB t a b = true ↔ ∃ k, k < 3 ∧ nth3 t k = (a : Int) ∧ nth3 t ((k + 1) % 3) = (b : Int) := by
  unfold goesB edgeB
  simp only [Bool.or_eq_true, Bool.and_eq_true, beq_iff_eq]
  constructor
  · rintro ((h | h) | h)
    · exact ⟨0, by omega, h⟩
    · exact ⟨1, by omega, h⟩
    · exact ⟨2, by omega, h⟩
  · rintro ⟨k, hk, h⟩
    have : k = 0 ∨ k = 1 ∨ k = 2 := by omega
    rcases this with rfl | rfl | rfl
    · exact .inl (.inl h)
    · exact .inl (.inr h)
    · exact .inr h
theorem goneF_all (ts : List T3) (a b : Nat) : goneF ts ts.length 0 a b = true ↔ goneP ts a b := by
  unfold goneF goneP
  rw [someB_zero, Bool.or_false, List.take_length, List.any_eq_true]
  exact ⟨fun ⟨t, h1, h2⟩ => ⟨t, h1, (goesB_iff t a b).1 h2⟩, fun ⟨t, h1, h2⟩ => ⟨t, h1, (goesB_iff t a b).2 h2⟩⟩
/-- no edge is met twice -/
theorem goneF_fresh {l : List Pt} {ts : List T3} (F : IsOk l ts) {i k x y : Nat} (hi : i < ts.length) (hk : k < 3) (e1 : nth3 (ts.getD i (0, 0, 0)) k = (x : Int)) (e2 : nth3 (ts.getD i (0, 0, 0)) ((k + 1) % 3) = (y : Int)) : goneF ts i k x y = false := by
  unfold goneF
  rw [Bool.or_eq_false_iff]
  have eg : ts.getD i (0, 0, 0) = ts[i] := by simp [hi]
  refine ⟨?_, ?_⟩
  · rw [List.any_eq_false]
    intro s hs hg
    obtain ⟨m, hm, e⟩ := List.getElem_of_mem hs
    have hmi : m < i := by simp at hm; omega
    have hal := pw_at F.alg hmi hi
    have es : ts.getD m (0, 0, 0) = s := by
      rw [← e]
      simp [show m < ts.length by omega]
    rw [es] at hal
    obtain ⟨j, hj, g1, g2⟩ := (goesB_iff s x y).1 hg
    have : alongB s (ts.getD i (0, 0, 0)) = true := by
      unfold alongB
      rw [List.any_eq_true]
      refine ⟨j, List.mem_range.2 hj, ?_⟩
      rw [List.any_eq_true]
      refine ⟨k, List.mem_range.2 hk, ?_⟩
      rw [Bool.and_eq_true, beq_iff_eq, beq_iff_eq]
      exact ⟨g1.trans e1.symm, g2.trans e2.symm⟩
    rw [this] at hal; cases hal
  · obtain ⟨⟨h0, h1, h2, _, _⟩, h5, _⟩ := F.tri _ (List.getElem_mem hi)
    rw [← eg] at h0 h1 h2 h5
    generalize ts.getD i (0, 0, 0) = t at *
    obtain ⟨p, q, r⟩ := t
    dsimp only at *
    have hqr : q ≠ r := by
      intro e
      subst e
      have : sd (pOf l p) (pOf l q) (pOf l q) = 0 := sd_B _ _
      omega
    have hk3 : k = 0 ∨ k = 1 ∨ k = 2 := by omega
    rcases hk3 with rfl | rfl | rfl <;> simp only [Nat.zero_add, Nat.reduceAdd, Nat.reduceMod, nth3_0, nth3_1, nth3_2] at e1 e2 <;> simp [someB, edgeB, nth3_0, nth3_1, nth3_2] <;> omega

end Go.Proofs.YtejldpfcofimaaaGreat
