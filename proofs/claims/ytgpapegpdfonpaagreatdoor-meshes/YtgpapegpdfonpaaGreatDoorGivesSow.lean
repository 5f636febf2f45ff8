/-
  More of what an operation gives: an index, a sum, a remainder, a length.
  Our law for regions that draw their order, by an invariant of one's own; and for regions that read, make variables and fill them.
-/
import Derived.Test.YtgpapegpdfonpaaGreatDoorWalksJK
set_option linter.unusedVariables false
set_option linter.unusedSimpArgs false
namespace Go.Proofs.YtgpapegpdfonpaaGreatDoor
open Go.RowKit
theorem gives_index {P : Program} {o : Oper} {ρ : Operand → Value} {w : World} {R : Value → World → Prop} {T : TypeId} {x y : Operand} {vx vy v : Value} (hop : o.op = .indexAddr T x y) (hx : ρ x = vx) (hy : ρ y = vy)
  (hrun : (Instr.indexAt T vx vy).run P w = .ok v w) (hR : R v w) : Gives P o ρ w R := by
 refine Gives.value v w ?_ hR
 simp only [execOp, hop, hx, hy, Sem.run_bind, hrun, Result.andThen_ok, Sem.run_pure]
theorem gives_bin {P : Program} {o : Oper} {ρ : Operand → Value} {w : World} {R : Value → World → Prop} {T T' : TypeId} {b : BinOp} {x y : Operand} {vx vy v : Value} (hop : o.op = .binOp b T x y T') (hx : ρ x = vx) (hy : ρ y = vy)
  (hrun : Sem.run P (do eqGuard b T x y vx vy; binOp b T vx vy) w = .ok v w) (hR : R v w) : Gives P o ρ w R := by
 refine Gives.value v w ?_ hR
 simp only [execOp, hop, hx, hy, Sem.run_bind] at hrun ⊢
 rw [hrun]
 rfl
theorem gives_len {o : Oper} {ρ : Operand → Value} {w : World} {R : Value → World → Prop} {x : Operand} {T : TypeId} {a : Option Addr} {n c : Nat} (hT : T = 26 ∨ T = 41) (hop : o.op = .call { callee := .builtin .len, args := #[x], argTypes := #[T] }) (hx : ρ x = .slice a n c)
  (hR : R (.int .i64 (n : Int)) w) : Gives Tryz.prog o ρ w R := by
 refine Gives.value _ w ?_ hR
 obtain ⟨dst, op, ty, pos, after, guard⟩ := o
 simp only at hop
 subst hop
 rcases hT with rfl | rfl
 ·simp only [execOp, resolve]
  go_simp
 ·simp only [execOp, resolve]
  go_simp
theorem run_load_int (w : World) (g i : Nat) (z : Value) (h : w.cell? ⟨g, i, none⟩ = some z) : (Instr.loadAt 3 (.pointer (some ⟨g, i, none⟩))).run Tryz.prog w = .ok z w := by
 go_simp
end Go.Proofs.YtgpapegpdfonpaaGreatDoor

namespace Go.Proofs.YtgpapegpdfonpaaGreatDoor
open Go.RowKit
def GivesRawS (P : Program) (o : Oper) (ρ : Operand → Value) (w : World) (R : Value → World → Prop) : Prop :=
 match (execOp ρ o).run P w with
 | .ok (.value v) w' => R v w'
 | .ok .skip w' => R undef w'
 | .ok (.enter f args) w' => Calls P f args w' fun e w'' => ∃ v, e = .returned v ∧ R v w''
 | _ => False
structure GivesS (P : Program) (o : Oper) (ρ : Operand → Value) (w : World) (R : Value → World → Prop) : Prop where
 out : GivesRawS P o ρ w R
theorem Gives.toS {P : Program} {o : Oper} {ρ : Operand → Value} {w : World} {R : Value → World → Prop} (h : Gives P o ρ w R) : GivesS P o ρ w R := by
 have h := h.out
 refine ⟨?_⟩
 unfold GivesRaw at h
 unfold GivesRawS
 generalize (execOp ρ o).run P w = r at h
 cases r with
 | ok n w' => cases n <;> simp only at h ⊢ <;> first | exact h | exact h.elim
 | halt x w' => simp at h
theorem GivesS.wp {P : Program} {o : Oper} {a : Act} {ρ : Operand → Value} {w : World} {R : Value → World → Prop} {K : Act → World → Prop} {Q : Exit → Act → World → Prop}
  (h : GivesS P o ρ w R) (he : execOp a.eval o = execOp ρ o) (hK : ∀ v w', R v w' → K (a.put o.dst v) w') : Oper.wp P o a w K Q := by
 have h := h.out
 unfold GivesRawS at h
 unfold Oper.wp
 rw [he]
 generalize (execOp ρ o).run P w = r at h
 cases r with
 | ok n w' =>
  cases n <;> simp only [Oper.upon] at h ⊢
  case value v => exact hK _ _ h
  case skip => exact hK _ _ h
  case enter f args =>
   refine Calls.mono h fun e w'' he => ?_
   obtain ⟨v, rfl, hv⟩ := he
   exact hK _ _ hv
 | halt x w' => simp at h
section
variable {P : Program} {ops : Array Oper} {Q : Exit → Act → World → Prop}
structure InvAt (ops : Array Oper) (m : Nat) (a0 : Act) (Inv : (Nat → Bool) → (Nat → Value) → World → Prop) (σ : Nat → Value) (listed : Array Bool) (a : Act) (w : World) : Prop where
 size : listed.size = ops.size
 late : ∀ j, m ≤ j → listed.getD j false = false
 down : ∀ j o, ops[j]? = some o → listed.getD j false = true → ∀ ed ∈ o.after, Region.binds .any ed = true → listed.getD ed.on false = true
 laid : Laid ops m a0 σ listed a
 inv : Inv (fun j => listed.getD j false) σ w
theorem wpAny_inv {m : Nat} (g : GrowOk ops m) (hgd : ∀ i o, i < m → ops[i]? = some o → o.guard = none) {a0 : Act} (Inv : (Nat → Bool) → (Nat → Value) → World → Prop)
  (hop : ∀ i, i < m → ∀ (L : Nat → Bool) (σ : Nat → Value) (w : World), Inv L σ w → (∀ j, waits ops i j = true → L j = true) → (∀ j k, L j = true → waits ops j k = true → L k = true) → L i = false →
    GivesS P (opAt ops i) (full ops σ i a0).eval w fun v w' => Inv (fun j => if j = i then true else L j) (fun j => if j = i then v else σ j) w')
  (hend : ∀ (L : Nat → Bool) (σ : Nat → Value) (w : World), Inv L σ w → (∀ j, j < m → L j = true) → Rest P ops Q (ops.toList.drop m) (full ops σ m a0) w) :
  ∀ (r : Nat) (σ : Nat → Value) (listed : Array Bool) (a : Act) (w : World), r = left m listed → InvAt ops m a0 Inv σ listed a w →
   wpAny P .any ops Q (ops.size - m + r) listed a w := by
 intro r
 induction r with
 | zero =>
  intro σ listed a w hr G
  have hall := left_zero hr.symm
  have hl : listed = firsts ops.size m := by
   apply Array.ext_getElem?
   intro j
   by_cases hj : j < ops.size
   ·have h1 : listed[j]? = some (listed.getD j false) := by
     have : j < listed.size := by rw [G.size]; exact hj
     simp [this]
    have h2 : (firsts ops.size m)[j]? = some (decide (j < m)) := by simp [firsts, hj]
    rw [h1, h2]
    by_cases hjm : j < m
    ·rw [hall j hjm]; simp [hjm]
    ·rw [G.late j (by omega)]; simp [hjm]
   ·rw [Array.getElem?_eq_none (by rw [G.size]; omega), Array.getElem?_eq_none (by rw [firsts_size]; omega)]
  rw [G.laid.all g hall, hl]
  exact wpAny_tail g _ m _ _ (by omega) (Nat.le_refl _) g.le (hend _ σ w G.inv hall).out
 | succ r ih =>
  intro σ listed a w hr G
  obtain ⟨j0, hj0, hun0⟩ := left_pos (m := m) (listed := listed) (by omega)
  refine ⟨fun h0 => absurd h0 (least_ready g G.size j0 hj0 hun0), fun i hi => ?_⟩
  obtain ⟨hun, o, ho, hall⟩ := mem_ready.1 hi
  have hlt : i < ops.size := (Array.getElem?_eq_some_iff.1 ho).1
  have hin : i < listed.size := by rw [G.size]; exact hlt
  have hun' : listed.getD i false = false := by simp [hin] at hun ⊢; exact hun
  have hp : ∀ j, waits ops i j = true → listed.getD j false = true := fun j hw => by
   obtain ⟨ed, hed, hb, hon⟩ := waits_spec ho hw
   exact hon ▸ hall ed hed hb
  have him : i < m := by
   rcases Nat.lt_or_ge i m with h | h
   ·exact h
   ·exfalso
    rcases Nat.lt_or_eq_of_le h with h' | h'
    ·obtain ⟨j, hj, hw⟩ := g.late i h' hlt
     have := hp j hw
     rw [G.late j hj] at this
     cases this
    ·subst h'
     rcases g.gate with hg | hg
     ·omega
     ·-- all of the first m have come up
      have allup : ∀ d j, j < m → m - j ≤ d → listed.getD j false = true := by
       intro d
       induction d with
       | zero => intro j hj hd; omega
       | succ d ihd =>
        intro j hj hd
        obtain ⟨j', h1, h2, hw⟩ := hg j hj
        rcases Nat.lt_or_eq_of_le h2 with h3 | h3
        ·have hl' := ihd j' h3 (by omega)
         have hget : ops[j']? = some (ops[j']'(Nat.lt_of_lt_of_le h3 g.le)) := by simp [Nat.lt_of_lt_of_le h3 g.le]
         obtain ⟨ed, hed, hb, hon⟩ := waits_spec hget hw
         exact hon ▸ G.down j' _ hget hl' ed hed hb
        ·subst h3; exact hp j hw
      rw [allup (m - j0) j0 hj0 (Nat.le_refl _)] at hun0
      cases hun0
  have hdn : ∀ j k, listed.getD j false = true → waits ops j k = true → listed.getD k false = true := fun j k hl hw => by
   cases hj : ops[j]? with
   | none => simp [waits, hj] at hw
   | some oj =>
    obtain ⟨ed, hed, hb, hon⟩ := waits_spec hj hw
    exact hon ▸ G.down j oj hj hl ed hed hb
  have hgv := hop i him _ σ w G.inv hp hdn hun'
  rw [show opAt ops i = o by simp [opAt, ho]] at hgv
  simp only [wpOp, ho]
  rw [if_pos (by simp [Region.wanted, hgd i o him ho])]
  refine .inl (hgv.wp (G.laid.exec g him ho hp) fun v w' hvw => ?_)
  have hset : (listed.setIfInBounds i true).getD i false = true := by simp [hin]
  have hne : ∀ j, j ≠ i → (listed.setIfInBounds i true).getD j false = listed.getD j false := fun j hj => getD_set_ne false (Ne.symm hj)
  refine ih (fun j => if j = i then v else σ j) _ _ _ (by have := left_set him hin hun'; omega) ⟨?_, ?_, ?_, G.laid.put g him ho hun' G.size v, ?_⟩
  ·simp [G.size]
  ·intro j hj; rw [hne j (by omega)]; exact G.late j hj
  ·intro j oj hoj hl ed hed hb
   by_cases hji : j = i
   ·subst hji
    rw [ho] at hoj
    cases hoj
    exact getD_set_true (hall ed hed hb)
   ·rw [hne j hji] at hl
    exact getD_set_true (G.down j oj hoj hl ed hed hb)
  ·have e : (fun j => (listed.setIfInBounds i true).getD j false) = fun j => if j = i then true else listed.getD j false := by
    funext j
    by_cases hji : j = i
    ·subst hji; rw [if_pos rfl]; exact hset
    ·rw [if_neg hji]; exact hne j hji
   rw [e]
   exact hvw
theorem wp_region_inv {id m : Nat} {a0 : Act} {W : World} (hm : P.follows .mixedOrders = true) (g : growOk ops m = true) {dsts : List (Option Tmp)} (hd : (ops.toList.take m).map (·.dst) = dsts)
  (hb : inFrame dsts a0.tmps.size = true) {l : List Oper} (hl : ops.toList.drop m = l) (Inv : (Nat → Bool) → (Nat → Value) → World → Prop)
  (h0 : Inv (fun _ => false) (fun _ => undef) W.drew)
  (hop : ∀ i, i < m → ∀ (L : Nat → Bool) (σ : Nat → Value) (w : World), Inv L σ w → (∀ j, waits ops i j = true → L j = true) → (∀ j k, L j = true → waits ops j k = true → L k = true) → L i = false →
    GivesS P (opAt ops i) (env dsts σ i a0) w fun v w' => Inv (fun j => if j = i then true else L j) (fun j => if j = i then v else σ j) w')
  (hend : ∀ (L : Nat → Bool) (σ : Nat → Value) (w : World), Inv L σ w → (∀ j, j < m → L j = true) → Rest P ops Q l (lay dsts σ 0 a0) w) : (Code.region id ops true).wp P Q a0 W := by
 have gs := growOk_spec g
 refine wp_region_any hm ?_
 have := wpAny_inv gs (growOk_guard g) Inv (fun i hi L σ w h1 h2 h3 h4 => by rw [full_env σ a0 m gs.le hd hb i (Nat.le_of_lt hi)]; exact hop i hi L σ w h1 h2 h3 h4) (fun L σ w h1 h2 => by rw [full_lay σ a0 m gs.le, hd, hl]; exact hend L σ w h1 h2) m (fun _ => undef) (Array.replicate ops.size false) a0 W.drew (left_none _ _).symm
  ⟨by simp, fun j _ => by simp [Array.getElem?_replicate]; split <;> rfl, fun j o _ h => absurd h (by simp [Array.getElem?_replicate]; split <;> simp),
   ⟨rfl, rfl, fun j _ h => absurd h (by simp [Array.getElem?_replicate]; split <;> simp), fun _ _ => rfl⟩, by
    have e : (fun j => (Array.replicate ops.size false).getD j false) = fun _ => false := by
      funext j
      simp [Array.getElem?_replicate]; split <;> rfl
    rw [e]; exact h0⟩
 have e : ops.size - m + m = ops.size := by have := gs.le; omega
 rw [e] at this
 exact this
end
inductive Knd
 | val (v : Value)
 | fresh
 | put (a : Nat) (x y : Value)
structure Sow (W : World) (T : TypeId) (kd : Nat → Knd) (L : Nat → Bool) (σ : Nat → Value) (w : World) : Prop where
 bel : Below W.heap.size W w
 val : ∀ i v, kd i = .val v → L i = true → σ i = v
 fre : ∀ i, kd i = .fresh → L i = true → ∃ b c0 c1, σ i = .pointer (some ⟨b, 0, none⟩) ∧ W.heap.size ≤ b ∧ w.heap[b]? = some (.cells #[c0, c1] T (0, 0)) ∧ ∀ k x y, kd k = .put i x y → L k = true → c0 = x ∧ c1 = y
 dis : ∀ i j, i ≠ j → kd i = .fresh → kd j = .fresh → L i = true → L j = true → σ i ≠ σ j
section
variable {W w : World} {T : TypeId} {kd : Nat → Knd} {L : Nat → Bool} {σ : Nat → Value} {i : Nat}
theorem Sow.start (W : World) (T : TypeId) (kd : Nat → Knd) (σ : Nat → Value) : Sow W T kd (fun _ => false) σ W.drew :=
 ⟨(Below.refl _ _).drew, (fun _ _ _ h => by cases h), (fun _ _ h => by cases h), (fun _ _ _ _ _ h => by cases h)⟩
theorem Sow.stepV (h : Sow W T kd L σ w) {v : Value} (hk : kd i = .val v) : Sow W T kd (fun j => if j = i then true else L j) (fun j => if j = i then v else σ j) w := by
 have ne : ∀ j, kd j ≠ .val v → j ≠ i := fun j hj e => hj (by rw [e]; exact hk)
 refine ⟨h.bel, fun j u hj hl => ?_, fun j hj hl => ?_, fun j k hjk hj hk' hl hl' => ?_⟩
 ·by_cases e : j = i
  ·subst e; rw [hk] at hj; simp only [if_true]; cases hj; rfl
  ·simp only [if_neg e] at hl ⊢; exact h.val j u hj hl
 ·have e : j ≠ i := ne j (by rw [hj]; simp)
  simp only [if_neg e] at hl ⊢
  obtain ⟨b, c0, c1, e1, e2, e3, e4⟩ := h.fre j hj hl
  refine ⟨b, c0, c1, e1, e2, e3, fun k x y hk' hl' => e4 k x y hk' ?_⟩
  have e' : k ≠ i := ne k (by rw [hk']; simp)
  simpa only [if_neg e'] using hl'
 ·have e : j ≠ i := ne j (by rw [hj]; simp)
  have e' : k ≠ i := ne k (by rw [hk']; simp)
  simp only [if_neg e, if_neg e'] at hl hl' ⊢
  exact h.dis j k hjk hj hk' hl hl'
theorem Sow.stepF (h : Sow W T kd L σ w) (hk : kd i = .fresh) (hno : ∀ k x y, kd k = .put i x y → L k = false) (z0 z1 : Value) :
  Sow W T kd (fun j => if j = i then true else L j) (fun j => if j = i then .pointer (some ⟨w.heap.size, 0, none⟩) else σ j) (w.alloc (.cells #[z0, z1] T)) := by
 have old : ∀ j, j ≠ i → kd j = .fresh → L j = true → σ j ≠ .pointer (some ⟨w.heap.size, 0, none⟩) := fun j hj hf hl e => by
  obtain ⟨b, c0, c1, e1, e2, e3, e4⟩ := h.fre j hf hl
  rw [e1] at e
  simp at e
  have := (Array.getElem?_eq_some_iff.1 e3).1
  omega
 refine ⟨h.bel.alloc h.bel.size _, fun j u hj hl => ?_, fun j hj hl => ?_, fun j k hjk hj hk' hl hl' => ?_⟩
 ·have e : j ≠ i := fun e => by rw [e, hk] at hj; cases hj
  simp only [if_neg e] at hl ⊢; exact h.val j u hj hl
 ·by_cases e : j = i
  ·subst e
   refine ⟨w.heap.size, z0, z1, if_pos rfl, h.bel.size, heap_alloc_new _ _, fun k x y hk' hl' => ?_⟩
   have e' : k ≠ j := fun e => by rw [e, hk] at hk'; cases hk'
   simp only [if_neg e'] at hl'
   rw [hno k x y hk'] at hl'; cases hl'
  ·simp only [if_neg e] at hl ⊢
   obtain ⟨b, c0, c1, e1, e2, e3, e4⟩ := h.fre j hj hl
   refine ⟨b, c0, c1, e1, e2, by rw [Below.heap_alloc _ _ _ (Array.getElem?_eq_some_iff.1 e3).1]; exact e3, fun k x y hk' hl' => e4 k x y hk' ?_⟩
   have e' : k ≠ i := fun e => by rw [e, hk] at hk'; cases hk'
   simpa only [if_neg e'] using hl'
 ·by_cases e : j = i
  ·subst e
   have e' : k ≠ j := Ne.symm hjk
   simp only [if_neg e', if_true] at hl' ⊢
   exact Ne.symm (old k e' hk' hl')
  ·by_cases e' : k = i
   ·subst e'
    simp only [if_neg e, if_true] at hl ⊢
    exact old j e hj hl
   ·simp only [if_neg e, if_neg e'] at hl hl' ⊢
    exact h.dis j k hjk hj hk' hl hl'
theorem Sow.stepP (h : Sow W T kd L σ w) {a b : Nat} {x y u : Value} (hk : kd i = .put a x y) (ha : kd a = .fresh) (hl : L a = true) (hs : σ a = .pointer (some ⟨b, 0, none⟩)) (huniq : ∀ k x' y', kd k = .put a x' y' → k = i) :
  Sow W T kd (fun j => if j = i then true else L j) (fun j => if j = i then u else σ j) ((w.setCell ⟨b, 0, none⟩ x).setCell ⟨b, 1, none⟩ y) := by
 obtain ⟨b', c0, c1, e1, e2, e3, e4⟩ := h.fre a ha hl
 have : b' = b := by rw [hs] at e1; simp at e1; exact e1.symm
 subst this
 have k0 := heap_setCell_same w b' 0 _ _ x e3
 have k1 := heap_setCell_same _ b' 1 _ _ y k0
 refine ⟨(h.bel.setCell (p := ⟨b', 0, none⟩) e2 x).setCell (p := ⟨b', 1, none⟩) e2 y, fun j u hj hl => ?_, fun j hj hl => ?_, fun j k hjk hj hk' hl hl' => ?_⟩
 ·have e : j ≠ i := fun e => by rw [e, hk] at hj; cases hj
  simp only [if_neg e] at hl ⊢; exact h.val j u hj hl
 ·have e : j ≠ i := fun e => by rw [e, hk] at hj; cases hj
  simp only [if_neg e] at hl ⊢
  by_cases ej : j = a
  ·subst ej
   refine ⟨b', x, y, hs, e2, k1, fun k x' y' hk' hl' => ?_⟩
   have := huniq k x' y' hk'
   subst this
   rw [hk] at hk'
   cases hk'
   exact ⟨rfl, rfl⟩
  ·obtain ⟨d, c0', c1', f1, f2, f3, f4⟩ := h.fre j hj hl
   have hne : d ≠ b' := fun e => h.dis j a ej hj ha hl ‹L a = true› (by rw [f1, hs, e])
   refine ⟨d, c0', c1', f1, f2, by rw [Below.heap_setCell _ _ _ _ hne, Below.heap_setCell _ _ _ _ hne]; exact f3, fun k x' y' hk' hl' => ?_⟩
   have e' : k ≠ i := fun e => by rw [e, hk] at hk'; cases hk'; exact ej rfl
   simp only [if_neg e'] at hl'
   exact f4 k x' y' hk' hl'
 ·have e : j ≠ i := fun e => by rw [e, hk] at hj; cases hj
  have e' : k ≠ i := fun e => by rw [e, hk] at hk'; cases hk'
  simp only [if_neg e, if_neg e'] at hl hl' ⊢
  exact h.dis j k hjk hj hk' hl hl'
end
theorem gives_store {P : Program} {o : Oper} {ρ : Operand → Value} {w w' : World} {R : Value → World → Prop} {T : TypeId} {x y : Operand} {vx vy : Value} (hop : o.op = .store T x y) (hx : ρ x = vx) (hy : ρ y = vy)
  (hrun : (Instr.storeAt T vx vy).run P w = .ok () w') (hR : R undef w') : GivesS P o ρ w R := by
 have e : (execOp ρ o).run P w = .ok .skip w' := by simp only [execOp, hop, hx, hy, Sem.run_bind, hrun, Result.andThen_ok, Sem.run_pure]
 refine ⟨?_⟩
 unfold GivesRawS
 rw [e]
 exact hR
end Go.Proofs.YtgpapegpdfonpaaGreatDoor
