/-
  For every list of points and every step: the statement on the triangles (they fill the hull, their circles are empty, they are as many as there must be and in order; asked again, the same) answers true, and its arguments read behind the call as they read before it. No condition.
-/
import Derived.Test.YtgpapegpdfonpaaEmptyE
import Derived.Test.YtgpapegpdfonpaaFrame5
import Derived.Deep.Slices
import Derived.ChangeOld
import Derived.Carry
namespace Go.Proofs.Ytgpapegpdfonpaa
set_option linter.unusedVariables false
set_option linter.unusedSimpArgs false
open Go.ChangeShapes Go.WideShapes Go.ChangeAt Go.RowKit Go.Joins

set_option maxRecDepth 100000 in
theorem laidOut : laidOutB Try.prog = true := by kernel_rfl

theorem add_off (b off j : Nat) : (⟨b, off, none⟩ : Addr).add j = ⟨b, off + j, none⟩ := by unfold Addr.add; split <;> simp_all

set_option maxRecDepth 100000 in
theorem open_points {H : Type} {enc : TypeId × Value → H} {W : World} {sp : Nat → Bool} {held : Bool} {fuel : Nat} {a : Option Addr} {len cap : Nat} {x : DataW H × List MemPlace}
    (h : DataW.trod enc Try.prog W 0 sp held fuel 28 [.slice a len cap] = some x) : ∃ rs : List Pt, rs.length = len ∧ len ≤ maxLen ∧ RawAt W a rs ∧ Fits rs := by
  rcases Deep.open_slice Try.underlying28 h with ⟨hcs, _⟩ | ⟨ad, len', cap', m, n, D, Pl, hcs, _, hl, hm, hmm, _, hx⟩
  · simp at hcs
    obtain ⟨rfl, rfl, rfl⟩ := hcs
    exact ⟨[], rfl, Nat.zero_le _, .inl rfl, fun p hp => by simp at hp⟩
  · simp at hcs
    obtain ⟨rfl, rfl, rfl⟩ := hcs
    have hle : len ≤ m := by rw [hmm]; split <;> omega
    have key : ∀ i, ∃ p : Pt, i < len → W.cell? ((ad.add (i * 2)).add 0) = some (.int .i64 p.1) ∧ W.cell? ((ad.add (i * 2)).add 1) = some (.int .i64 p.2) ∧ (Lit.int .i64 p.1).wf = true ∧ (Lit.int .i64 p.2).wf = true := by
      intro i
      by_cases hi : i < len
      · obtain ⟨cs', h1, h2⟩ := hx i (by omega)
        rw [cellsPt] at h1
        obtain ⟨_, hlen, hc⟩ := World.cells?_some h1
        obtain ⟨y0, y1, n', hxx, _, e0, e1⟩ := trod_struct2 Try.underlying23 h2
        match cs', hlen with
        | [c0, c1], _ =>
          have c3 : Try.prog.cellsOf 3 = 1 := by kernel_rfl
          simp only [c3, List.drop_zero, List.drop_succ_cons, List.take_succ_cons, List.take_zero] at e0 e1
          obtain ⟨z0, hz0, _, w0⟩ := DataW.trod_int Try.underlying3 e0
          obtain ⟨z1, hz1, _, w1⟩ := DataW.trod_int Try.underlying3 e1
          simp only [List.cons.injEq, and_true] at hz0 hz1
          subst hz0 hz1
          exact ⟨(z0, z1), fun _ => ⟨hc 0 (by omega), hc 1 (by omega), w0, w1⟩⟩
      · exact ⟨(0, 0), fun h => absurd h hi⟩
    obtain ⟨f, hf⟩ := Classical.axiomOfChoice key
    refine ⟨(List.range len).map f, by simp, by omega, ?_, ?_⟩
    · by_cases h0 : len = 0
      · subst h0; exact .inl rfl
      · right
        obtain ⟨b, off, spot⟩ := ad
        obtain ⟨q0, q1, _, _⟩ := hf 0 (by omega)
        have hspot : spot = none := by simpa [Addr.add] using World.cell?_spot q0
        subst hspot
        rw [add_off, add_off] at q0
        refine ⟨b, off, rfl, World.block_lt_of_cell? W _ q0, ?_⟩
        intro j hj
        have hj' : j < len := by simpa using hj
        obtain ⟨q0, q1, _, _⟩ := hf j hj'
        rw [add_off, add_off] at q0 q1
        have e : ((List.range len).map f).getD j (0, 0) = f j := by simp [hj']
        rw [e]
        exact ⟨q0, q1⟩
    · intro p hp
      obtain ⟨i, hi, rfl⟩ := List.mem_map.1 hp
      obtain ⟨_, _, w1, w2⟩ := hf i (by simpa using hi)
      exact ⟨bd64 w1, bd64 w2⟩

set_option maxRecDepth 100000 in
theorem empty_lifted (os : Os) (started : os.Started) (H : Type) (enc : TypeId × Value → H) :
    ReturnsInHanded {} Try.checked os 6 .any (Rows.emptySpec.pre6 enc Try.prog Try.f6 Rows.emptyRow.domain false) (Rows.emptySpec.post enc Try.prog Try.f6 false true false false) := by
  refine returnsInHanded_of_change (C := Try.checked) own started (by kernel_rfl) Try.func6
    (ChangeSpec.witness6 (enc := enc) (C := Try.checked) false ⟨#[], #[.slice none 0 0, .int .i64 0], []⟩ 8 (by kernel_rfl) (by kernel_rfl) (by kernel_rfl) (by kernel_rfl)) ?_
  intro W base args ds gs before hval0 hW hcnd _
  have hval : ∀ (j : Nat) t v, Try.f6.params[j]? = some t → args[j]? = some v → Value.okWide Try.prog W .any base t v := hval0
  have hW' := hW
  obtain ⟨p, q, hA0, hV, rfl, hfz, hnd⟩ := hW
  have hA : DataW.TrodAll enc Try.prog W 0 (fun _ => true) true Try.f6.params.toList args.toList ds p := hA0
  rw [Try.params6] at hA hval
  obtain ⟨v0, vs0, d0, ds0, p0, q0, hargs, rfl, rfl, h0, r0⟩ := trodAll_cons hA
  obtain ⟨v1, vs1, d1, ds1, p1, q1, rfl, rfl, rfl, h1, r1⟩ := trodAll_cons r0
  obtain ⟨rfl, rfl, rfl⟩ := trodAll_nil r1
  obtain rfl : args = #[v0, v1] := by cases args; simp_all
  obtain ⟨rfl, rfl⟩ := trodVars_none hV
  obtain ⟨a0, len0, cap0, rfl⟩ := okWide_slice Try.underlying28 (hval 0 28 v0 rfl rfl)
  have k0 := h0
  have lt0 : ∀ x ∈ p0, x.block < W.heap.size := by obtain ⟨m, hm⟩ := k0; exact DataW.trod_lt m _ _ _ hm
  obtain ⟨rs, rfl, hm, hr, hfit⟩ : ∃ rs : List Pt, rs.length = len0 ∧ len0 ≤ maxLen ∧ RawAt W a0 rs ∧ Fits rs := by
    obtain ⟨fuel, hf⟩ := h0
    exact open_points hf
  obtain ⟨st, rfl, rfl, rfl, ws⟩ := open_int Try.underlying3 (hval 1 3 v1 rfl rfl) h1
  clear hA0 hval0
  refine (empty_walk a0 cap0 rs st W hm hr hfit (bd64 ws).1 (bd64 ws).2).mono fun e W' ⟨he, bel⟩ => ?_
  subst he
  exact ⟨_, rfl, _, _, _, [], _, [], hW', trodAll_mk1 (shut_bool Try.underlying4 _), (trodAll_cons_mk (Below.trod laidOut (by kernel_rfl) (of_decide_eq_true (by kernel_rfl)) k0 bel lt0) (trodAll_cons_mk (shut_int Try.underlying3 ws) trodAll_mk0)), rfl, bel.frame _, fun h => by cases h⟩

theorem empty_holds : Rows.EmptySaid :=
  OpenClaim.holds_of_wide 6 Try.f6 rfl rfl rfl rfl rfl rfl rfl ⟨rfl, rfl, rfl, rfl, rfl⟩ rfl rfl rfl rfl rfl (by kernel_rfl) Try.func6 (by kernel_rfl)
    (of_decide_eq_true (by kernel_rfl)) (by unfold Func.isWrapper; first | (rw [if_pos (by decide +kernel)]; kernel_rfl) | (rw [if_neg (by decide +kernel)]; exact ⟨rfl, rfl⟩))
    (fun os started H enc _ => empty_lifted os started H enc)

#print axioms empty_holds
end Go.Proofs.Ytgpapegpdfonpaa
