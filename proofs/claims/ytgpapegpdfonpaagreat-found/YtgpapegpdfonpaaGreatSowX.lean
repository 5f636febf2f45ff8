/-
  A region that draws its order: reads, calls that leave all that is there, fresh variables of any size, stores that fill them.
-/
import Derived.Test.YtgpapegpdfonpaaGreatFoundA
namespace Go.Proofs.YtgpapegpdfonpaaGreat
set_option linter.unusedVariables false
set_option linter.unusedSimpArgs false
open Go.RowKit

inductive KndX
  | val (v : Value)
  | fresh (T : TypeId) (z : Array Value)
  | put (a : Nat) (c : Array Value)
structure SowX (W : World) (kd : Nat → KndX) (L : Nat → Bool) (σ : Nat → Value) (w : World) : Prop where
  bel : Below W.heap.size W w
  val : ∀ i v, kd i = .val v → L i = true → σ i = v
  fre : ∀ i T z, kd i = .fresh T z → L i = true → ∃ b cur, σ i = .pointer (some ⟨b, 0, none⟩) ∧ W.heap.size ≤ b ∧ w.heap[b]? = some (.cells cur T (0, 0)) ∧ cur.size = z.size ∧ ∀ k c, kd k = .put i c → L k = true → cur = c
  dis : ∀ i j T z T' z', i ≠ j → kd i = .fresh T z → kd j = .fresh T' z' → L i = true → L j = true → σ i ≠ σ j
section
variable {W w w' : World} {kd : Nat → KndX} {L : Nat → Bool} {σ : Nat → Value} {i : Nat}
theorem SowX.start (W : World) (kd : Nat → KndX) (σ : Nat → Value) : SowX W kd (fun _ => false) σ W.drew :=
  ⟨(Below.refl _ _).drew, (fun _ _ _ h => by cases h), (fun _ _ _ _ h => by cases h), (fun _ _ _ _ _ _ _ _ _ h => by cases h)⟩
theorem SowX.stepC (h : SowX W kd L σ w) {v : Value} (hk : kd i = .val v) (hb : Below w.heap.size w w') : SowX W kd (fun j => if j = i then true else L j) (fun j => if j = i then v else σ j) w' := by
  have ne : ∀ j, kd j ≠ .val v → j ≠ i := fun j hj e => hj (by rw [e]; exact hk)
  refine ⟨h.bel.trans (hb.mono h.bel.size), fun j u hj hl => ?_, fun j T z hj hl => ?_, fun j k T z T' z' hjk hj hk' hl hl' => ?_⟩
  · by_cases e : j = i
    · subst e; rw [hk] at hj; simp only [if_true]; cases hj; rfl
    · simp only [if_neg e] at hl ⊢; exact h.val j u hj hl
  · have e : j ≠ i := ne j (by rw [hj]; simp)
    simp only [if_neg e] at hl ⊢
    obtain ⟨b, cur, e1, e2, e3, e4, e5⟩ := h.fre j T z hj hl
    refine ⟨b, cur, e1, e2, by rw [hb.block b (lt_some e3)]; exact e3, e4, fun k c hk' hl' => e5 k c hk' ?_⟩
    have e' : k ≠ i := ne k (by rw [hk']; simp)
    simpa only [if_neg e'] using hl'
  · have e : j ≠ i := ne j (by rw [hj]; simp)
    have e' : k ≠ i := ne k (by rw [hk']; simp)
    simp only [if_neg e, if_neg e'] at hl hl' ⊢
    exact h.dis j k T z T' z' hjk hj hk' hl hl'
theorem SowX.stepV (h : SowX W kd L σ w) {v : Value} (hk : kd i = .val v) : SowX W kd (fun j => if j = i then true else L j) (fun j => if j = i then v else σ j) w := h.stepC hk (Below.refl _ _)
theorem SowX.stepF (h : SowX W kd L σ w) {T : TypeId} {z : Array Value} (hk : kd i = .fresh T z) (hno : ∀ k c, kd k = .put i c → L k = false) :
    SowX W kd (fun j => if j = i then true else L j) (fun j => if j = i then .pointer (some ⟨w.heap.size, 0, none⟩) else σ j) (w.alloc (.cells z T)) := by
  have old : ∀ j T' z', j ≠ i → kd j = .fresh T' z' → L j = true → σ j ≠ .pointer (some ⟨w.heap.size, 0, none⟩) := fun j T' z' hj hf hl e => by
    obtain ⟨b, cur, e1, e2, e3, e4, e5⟩ := h.fre j T' z' hf hl
    rw [e1] at e
    simp at e
    have := lt_some e3
    omega
  refine ⟨h.bel.alloc h.bel.size _, fun j u hj hl => ?_, fun j T' z' hj hl => ?_, fun j k T1 z1 T2 z2 hjk hj hk' hl hl' => ?_⟩
  · have e : j ≠ i := fun e => by rw [e, hk] at hj; cases hj
    simp only [if_neg e] at hl ⊢; exact h.val j u hj hl
  · by_cases e : j = i
    · subst e
      rw [hk] at hj
      cases hj
      refine ⟨w.heap.size, z, if_pos rfl, h.bel.size, heap_alloc_new _ _, rfl, fun k c hk' hl' => ?_⟩
      have e' : k ≠ j := fun e => by rw [e, hk] at hk'; cases hk'
      simp only [if_neg e'] at hl'
      rw [hno k c hk'] at hl'; cases hl'
    · simp only [if_neg e] at hl ⊢
      obtain ⟨b, cur, e1, e2, e3, e4, e5⟩ := h.fre j T' z' hj hl
      refine ⟨b, cur, e1, e2, by rw [Below.heap_alloc _ _ _ (lt_some e3)]; exact e3, e4, fun k c hk' hl' => e5 k c hk' ?_⟩
      have e' : k ≠ i := fun e => by rw [e, hk] at hk'; cases hk'
      simpa only [if_neg e'] using hl'
  · by_cases e : j = i
    · subst e
      have e' : k ≠ j := Ne.symm hjk
      simp only [if_neg e', if_true] at hl' ⊢
      exact Ne.symm (old k T2 z2 e' hk' hl')
    · by_cases e' : k = i
      · subst e'
        simp only [if_neg e, if_true] at hl ⊢
        exact old j T1 z1 e hj hl
      · simp only [if_neg e, if_neg e'] at hl hl' ⊢
        exact h.dis j k T1 z1 T2 z2 hjk hj hk' hl hl'
theorem SowX.stepP (h : SowX W kd L σ w) {a b : Nat} {T : TypeId} {z c : Array Value} {u : Value} (hk : kd i = .put a c) (ha : kd a = .fresh T z) (hc : c.size = z.size) (hl : L a = true) (hs : σ a = .pointer (some ⟨b, 0, none⟩)) (huniq : ∀ k c', kd k = .put a c' → k = i)
    (hn : w'.heap[b]? = some (.cells c T (0, 0))) (hfar : ∀ j, j ≠ b → w'.heap[j]? = w.heap[j]?) (ho : w'.os = w.os ∧ w'.tape = w.tape ∧ w'.output = w.output ∧ w'.heap.size = w.heap.size) :
    SowX W kd (fun j => if j = i then true else L j) (fun j => if j = i then u else σ j) w' := by
  obtain ⟨b', cur, e1, e2, e3, e4, e5⟩ := h.fre a T z ha hl
  have : b' = b := by rw [hs] at e1; simp at e1; exact e1.symm
  subst this
  refine ⟨⟨ho.1.trans h.bel.os, ho.2.1.trans h.bel.tape, ho.2.2.1.trans h.bel.output, by rw [ho.2.2.2]; exact h.bel.size, fun k hk => by rw [hfar k (by omega)]; exact h.bel.block k hk⟩, fun j u hj hl => ?_, fun j T' z' hj hl => ?_, fun j k T1 z1 T2 z2 hjk hj hk' hl hl' => ?_⟩
  · have e : j ≠ i := fun e => by rw [e, hk] at hj; cases hj
    simp only [if_neg e] at hl ⊢; exact h.val j u hj hl
  · have e : j ≠ i := fun e => by rw [e, hk] at hj; cases hj
    simp only [if_neg e] at hl ⊢
    by_cases ej : j = a
    · subst ej
      rw [ha] at hj
      cases hj
      refine ⟨b', c, hs, e2, hn, hc, fun k c' hk' hl' => ?_⟩
      have := huniq k c' hk'
      subst this
      rw [hk] at hk'
      cases hk'
      rfl
    · obtain ⟨d, cur', f1, f2, f3, f4, f5⟩ := h.fre j T' z' hj hl
      have hne : d ≠ b' := fun e => h.dis j a T' z' T z ej hj ha hl ‹L a = true› (by rw [f1, hs, e])
      refine ⟨d, cur', f1, f2, by rw [hfar d hne]; exact f3, f4, fun k c' hk' hl' => ?_⟩
      have e' : k ≠ i := fun e => by rw [e, hk] at hk'; cases hk'; exact ej rfl
      simp only [if_neg e'] at hl'
      exact f5 k c' hk' hl'
  · have e : j ≠ i := fun e => by rw [e, hk] at hj; cases hj
    have e' : k ≠ i := fun e => by rw [e, hk] at hk'; cases hk'
    simp only [if_neg e, if_neg e'] at hl hl' ⊢
    exact h.dis j k T1 z1 T2 z2 hjk hj hk' hl hl'
end
theorem arr2 {c : Array Value} (h : c.size = 2) : ∃ a b, c = #[a, b] := by
  obtain ⟨l⟩ := c
  match l, h with
  | [a, b], _ => exact ⟨a, b, rfl⟩
theorem arr4 {c : Array Value} (h : c.size = 4) : ∃ a b d e, c = #[a, b, d, e] := by
  obtain ⟨l⟩ := c
  match l, h with
  | [a, b, d, e], _ => exact ⟨a, b, d, e, rfl⟩
theorem gives_extractX {P : Program} {o : Oper} {ρ : Operand → Value} {w : World} {R : Value → World → Prop} {x : Operand} {i : Nat} {vs : Array Value} {v : Value} (hop : o.op = .extract x i) (hx : ρ x = .tuple vs) (hv : vs[i]? = some v) (hR : R v w) : Gives P o ρ w R := by
  refine Gives.value v w ?_ hR
  simp only [execOp, hop, hx]
  simp [Instr.extract, hv]
theorem run_load_mpX (w : World) (K : Nat) (v : Value) (h : w.cell? ⟨K, 0, none⟩ = some v) : (Instr.loadAt 24 (.pointer (some ⟨K, 0, none⟩))).run Tryz.prog w = .ok v w := by go_simp
theorem run_fieldN0 (w : World) (B : Nat) : (Instr.fieldAt 28 (.pointer (some ⟨B, 0, none⟩)) 0).run Tryz.prog w = .ok (.pointer (some ⟨B, 0, none⟩)) w := by go_simp
theorem run_fieldN2 (w : World) (B : Nat) : (Instr.fieldAt 28 (.pointer (some ⟨B, 0, none⟩)) 2).run Tryz.prog w = .ok (.pointer (some ⟨B, 2, none⟩)) w := by go_simp
theorem run_alloc_placeX (w : World) : (Instr.alloc 35 true (.tuple #[])).run Tryz.prog w = .ok (.pointer (some ⟨w.heap.size, 0, none⟩)) (w.alloc (.cells #[.int .i64 0, .int .i64 0, .int .i64 0, .int .i64 0] 35)) := by go_simp
theorem st_pt {w : World} {b : Nat} {cur : Array Value} {x y : Int} (h : w.heap[b]? = some (.cells cur 32 (0, 0))) (hc : cur.size = 2) : ∃ w', (Instr.storeAt 32 (.pointer (some ⟨b, 0, none⟩)) (.agg #[.int .i64 x, .int .i64 y])).run Tryz.prog w = .ok () w' ∧ w'.heap[b]? = some (.cells #[.int .i64 x, .int .i64 y] 32 (0, 0)) ∧ (∀ j, j ≠ b → w'.heap[j]? = w.heap[j]?) ∧ w'.os = w.os ∧ w'.tape = w.tape ∧ w'.output = w.output ∧ w'.heap.size = w.heap.size := by
  obtain ⟨c0, c1, rfl⟩ := arr2 hc
  have k0 := heap_setCell_same w b 0 _ _ (.int .i64 x) h
  have k1 := heap_setCell_same _ b 1 _ _ (.int .i64 y) k0
  exact ⟨_, run_store_ptF w b c0 c1 x y h, k1, (fun j hj => by rw [Below.heap_setCell _ _ _ _ hj, Below.heap_setCell _ _ _ _ hj]), rfl, rfl, rfl, by simp⟩
theorem run_store_placeX (w : World) (X : Nat) (k a b c : Int) {z0 z1 z2 z3 : Value} (h : w.heap[X]? = some (.cells #[z0, z1, z2, z3] 35 (0, 0))) :
    (Instr.storeAt 35 (.pointer (some ⟨X, 0, none⟩)) (.agg #[.int .i64 k, .int .i64 a, .int .i64 b, .int .i64 c])).run Tryz.prog w = .ok () ((((w.setCell ⟨X, 0, none⟩ (.int .i64 k)).setCell ⟨X, 1, none⟩ (.int .i64 a)).setCell ⟨X, 2, none⟩ (.int .i64 b)).setCell ⟨X, 3, none⟩ (.int .i64 c)) := by
  have q0 : w.cell? ⟨X, 0, none⟩ = some z0 := cell_of_heap h 0
  have q1 : w.cell? ⟨X, 1, none⟩ = some z1 := cell_of_heap h 1
  have q2 : w.cell? ⟨X, 2, none⟩ = some z2 := cell_of_heap h 2
  have q3 : w.cell? ⟨X, 3, none⟩ = some z3 := cell_of_heap h 3
  have f0 := frozen_of_heap h 0
  have f1 := frozen_of_heap h 1
  have f2 := frozen_of_heap h 2
  have f3 := frozen_of_heap h 3
  go_simp
theorem st_place {w : World} {X : Nat} {cur : Array Value} {k a b c : Int} (h : w.heap[X]? = some (.cells cur 35 (0, 0))) (hc : cur.size = 4) : ∃ w', (Instr.storeAt 35 (.pointer (some ⟨X, 0, none⟩)) (.agg #[.int .i64 k, .int .i64 a, .int .i64 b, .int .i64 c])).run Tryz.prog w = .ok () w' ∧ w'.heap[X]? = some (.cells #[.int .i64 k, .int .i64 a, .int .i64 b, .int .i64 c] 35 (0, 0)) ∧ (∀ j, j ≠ X → w'.heap[j]? = w.heap[j]?) ∧ w'.os = w.os ∧ w'.tape = w.tape ∧ w'.output = w.output ∧ w'.heap.size = w.heap.size := by
  obtain ⟨c0, c1, c2, c3, rfl⟩ := arr4 hc
  have k0 := heap_setCell_same w X 0 _ _ (.int .i64 k) h
  have k1 := heap_setCell_same _ X 1 _ _ (.int .i64 a) k0
  have k2 := heap_setCell_same _ X 2 _ _ (.int .i64 b) k1
  have k3 := heap_setCell_same _ X 3 _ _ (.int .i64 c) k2
  exact ⟨_, run_store_placeX w X k a b c h, k3, (fun j hj => by rw [Below.heap_setCell _ _ _ _ hj, Below.heap_setCell _ _ _ _ hj, Below.heap_setCell _ _ _ _ hj, Below.heap_setCell _ _ _ _ hj]), rfl, rfl, rfl, by simp⟩
end Go.Proofs.YtgpapegpdfonpaaGreat
