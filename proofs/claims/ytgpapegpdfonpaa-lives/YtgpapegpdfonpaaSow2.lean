/-
  Our law for a region 'x.f = append(x.f, v)' through a pointer, in whatever order.
-/
import Derived.Test.YtgpapegpdfonpaaSow
import Derived.Test.YtgpapegpdfonpaaOwnA
namespace Go.Proofs.Ytgpapegpdfonpaa
set_option linter.unusedVariables false
set_option linter.unusedSimpArgs false
open Go.RowKit

theorem gives_nil {P : Program} {o : Oper} {ρ : Operand → Value} {w : World} {R : Value → World → Prop} {x : Operand} {ad : Addr} (hop : o.op = .nilCheck x) (hx : ρ x = .pointer (some ad)) (hR : R (.pointer (some ad)) w) : Gives P o ρ w R := by
  refine Gives.value _ w ?_ hR
  simp only [execOp, hop, hx]
  rfl
theorem gives_field {P : Program} {o : Oper} {ρ : Operand → Value} {w : World} {R : Value → World → Prop} {T : TypeId} {x : Operand} {f : Nat} {vx v : Value} (hop : o.op = .fieldAddr T x f) (hx : ρ x = vx)
    (hrun : (Instr.fieldAt T vx f).run P w = .ok v w) (hR : R v w) : Gives P o ρ w R := by
  refine Gives.value v w ?_ hR
  simp only [execOp, hop, hx, Sem.run_bind, hrun, Result.andThen_ok, Sem.run_pure]
theorem gives_build {P : Program} {o : Oper} {ρ : Operand → Value} {w w' : World} {R : Value → World → Prop} {T : TypeId} {n : Nat} {x : Operand} {vx v : Value} (hop : o.op = .buildSlice T n #[(0, x)]) (hx : ρ x = vx)
    (hrun : (Instr.buildSlice T n #[(0, vx)]).run P w = .ok v w') (hR : R v w') : Gives P o ρ w R := by
  refine Gives.value v w' ?_ hR
  have e : (#[(0, x)] : Array (Nat × Operand)).map (fun (i, x) => (i, ρ x)) = #[(0, vx)] := by simp [hx]
  simp only [execOp, hop, e, Sem.run_bind, hrun, Result.andThen_ok, Sem.run_pure]
theorem gives_append {P : Program} {o : Oper} {ρ : Operand → Value} {w w' : World} {R : Value → World → Prop} {t : TypeId} {s x : Operand} {vs vx v : Value} (hop : o.op = .call { callee := .builtin .append, args := #[s, x], argTypes := #[t, t] }) (hs : ρ s = vs) (hx : ρ x = vx)
    (hrun : (Builtin.append_ #[t, t] o.type #[vs, vx]).run P w = .ok v w') (hR : R v w') : Gives P o ρ w R := by
  refine Gives.value v w' ?_ hR
  unfold execOp
  simp only [hop, resolve, invoke, builtin, Sem.run_bind, Sem.run_pure, Result.andThen_ok, List.map_toArray, List.map_cons, List.map_nil, hs, hx, hrun]

structure App (V : World) (o : Obj) (iB iA iS : Nat) (vals : Nat → Option Value) (ad : Addr) (R : Value → World → Prop) (L : Nat → Bool) (σ : Nat → Value) (w : World) : Prop where
  val : ∀ i v, vals i = some v → L i = true → σ i = v
  a : L iB = false → w = V
  b : L iB = true → L iA = false → w = V.alloc o
  c : L iA = true → L iS = false → R (σ iA) w
  d : L iS = true → ∃ w3, R (σ iA) w3 ∧ w = w3.setCell ad (σ iA)
section
variable {V w w' : World} {o : Obj} {iB iA iS i : Nat} {vals : Nat → Option Value} {ad : Addr} {R : Value → World → Prop} {L : Nat → Bool} {σ : Nat → Value} {v : Value}
theorem App.start : App V o iB iA iS vals ad R (fun _ => false) σ V := ⟨(fun _ _ _ h => by cases h), fun _ => rfl, (fun h => by cases h), (fun h => by cases h), (fun h => by cases h)⟩
theorem App.old (h : App V o iB iA iS vals ad R L σ w) (hA : L iA = false) {b j : Nat} (hb : b < V.heap.size) : w.cell? ⟨b, j, none⟩ = V.cell? ⟨b, j, none⟩ := by
  cases hB : L iB with
  | false => rw [h.a hB]
  | true => rw [h.b hB hA]; exact World.cell?_alloc_past _ _ _ hb
theorem App.stepV (h : App V o iB iA iS vals ad R L σ w) (hv : vals i = some v) (h1 : i ≠ iB) (h2 : i ≠ iA) (h3 : i ≠ iS) : App V o iB iA iS vals ad R (fun j => if j = i then true else L j) (fun j => if j = i then v else σ j) w := by
  refine ⟨fun j u hj hl => ?_, fun hl => h.a ?_, fun hl hl' => h.b ?_ ?_, fun hl hl' => ?_, fun hl => ?_⟩
  · by_cases e : j = i
    · subst e; rw [hv] at hj; cases hj; simp
    · simp only [if_neg e] at hl ⊢; exact h.val j u hj hl
  · simpa only [if_neg (Ne.symm h1)] using hl
  · simpa only [if_neg (Ne.symm h1)] using hl
  · simpa only [if_neg (Ne.symm h2)] using hl'
  · simp only [if_neg (Ne.symm h2)] at hl ⊢
    simp only [if_neg (Ne.symm h3)] at hl'
    exact h.c hl hl'
  · simp only [if_neg (Ne.symm h3)] at hl
    simp only [if_neg (Ne.symm h2)]
    exact h.d hl
theorem App.stepB (h : App V o iB iA iS vals ad R L σ w) (hv : vals iB = some v) (hA : L iA = false) (hS : L iS = false) (h2 : iB ≠ iA) (h3 : iB ≠ iS) (hw : w = V) : App V o iB iA iS vals ad R (fun j => if j = iB then true else L j) (fun j => if j = iB then v else σ j) (w.alloc o) := by
  refine ⟨fun j u hj hl => ?_, fun hl => ?_, fun _ _ => by rw [hw], fun hl _ => ?_, fun hl => ?_⟩
  · by_cases e : j = iB
    · subst e; rw [hv] at hj; cases hj; simp
    · simp only [if_neg e] at hl ⊢; exact h.val j u hj hl
  · simp at hl
  · simp only [if_neg (Ne.symm h2)] at hl; rw [hA] at hl; cases hl
  · simp only [if_neg (Ne.symm h3)] at hl; rw [hS] at hl; cases hl
theorem App.stepA (h : App V o iB iA iS vals ad R L σ w) (hv : vals iA = none) (hB : L iB = true) (hS : L iS = false) (h2 : iB ≠ iA) (h3 : iA ≠ iS) (hR : R v w') : App V o iB iA iS vals ad R (fun j => if j = iA then true else L j) (fun j => if j = iA then v else σ j) w' := by
  refine ⟨fun j u hj hl => ?_, fun hl => ?_, fun _ hl => ?_, fun _ _ => by simpa using hR, fun hl => ?_⟩
  · by_cases e : j = iA
    · subst e; rw [hv] at hj; cases hj
    · simp only [if_neg e] at hl ⊢; exact h.val j u hj hl
  · simp only [if_neg h2] at hl; rw [hB] at hl; cases hl
  · simp at hl
  · simp only [if_neg (Ne.symm h3)] at hl; rw [hS] at hl; cases hl
theorem App.stepS (h : App V o iB iA iS vals ad R L σ w) (hv : vals iS = none) (hB : L iB = true) (hA : L iA = true) (hS : L iS = false) (h2 : iB ≠ iS) (h3 : iA ≠ iS) : App V o iB iA iS vals ad R (fun j => if j = iS then true else L j) (fun j => if j = iS then v else σ j) (w.setCell ad (σ iA)) := by
  refine ⟨fun j u hj hl => ?_, fun hl => ?_, fun _ hl => ?_, fun _ hl => ?_, fun _ => ⟨w, ?_, ?_⟩⟩
  · by_cases e : j = iS
    · subst e; rw [hv] at hj; cases hj
    · simp only [if_neg e] at hl ⊢; exact h.val j u hj hl
  · simp only [if_neg h2] at hl; rw [hB] at hl; cases hl
  · simp only [if_neg h3] at hl; rw [hA] at hl; cases hl
  · simp at hl
  · simp only [if_neg h3]; exact h.c hA hS
  · simp only [if_neg h3]
end

end Go.Proofs.Ytgpapegpdfonpaa
