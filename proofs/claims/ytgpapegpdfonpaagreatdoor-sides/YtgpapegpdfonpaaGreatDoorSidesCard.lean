/-
  For every script of steps: the statement on sides, circles and hulls answers true, and the script reads behind the call as it read before it. The variables that strconv reads start as the program's text lays them (the card ties them). No other condition (that no slice is of more than 2^47 - 4096 bytes is the form's own).
-/
import Derived.Test.YtgpapegpdfonpaaGreatDoorLawH
import Derived.Test.YtgpapegpdfonpaaGreatDoorLaid
import Derived.WalkKit
import Derived.ProofKit
import Derived.OpenShut
import Derived.Lib.SmallJoins
import Derived.JoinedOf
import Derived.JoinedAt
import Derived.SizedLaws
import Derived.Deep.Slices
import Derived.ChangeOld
import Derived.Carry
namespace Go.Proofs.YtgpapegpdfonpaaGreatDoor
set_option linter.unusedVariables false
set_option linter.unusedSimpArgs false
open Go.ChangeShapes Go.WideShapes Go.ChangeAt Go.RowKit Go.Joins

theorem own : ownKnob Tryz.prog.godebug = none := by kernel_rfl
theorem laidOut : laidOutB Tryz.prog = true := by kernel_rfl
theorem cellsPt : Tryz.prog.cellsOf 37 = 2 := by kernel_rfl
theorem cellsInt : Tryz.prog.cellsOf 3 = 1 := by kernel_rfl
theorem cellsStr : Tryz.prog.cellsOf 9 = 1 := by kernel_rfl
theorem cellsPts : Tryz.prog.cellsOf 41 = 1 := by kernel_rfl
theorem cellsTris : Tryz.prog.cellsOf 42 = 1 := by kernel_rfl
theorem cellsOp : Tryz.prog.cellsOf 44 = 14 := by kernel_rfl
theorem add_off (b off j : Nat) : (⟨b, off, none⟩ : Addr).add j = ⟨b, off + j, none⟩ := by unfold Addr.add; split <;> simp_all

theorem bytesPt : Tryz.prog.bytesOf 37 = 16 := by kernel_rfl
theorem bytesOp : Tryz.prog.bytesOf 44 = 152 := by kernel_rfl

/-! ### what the form's own reach gives -/
def Within {H : Type} (t : TypeId) (d : DataW H) : Prop := ∀ n ∈ d.weights Tryz.prog t, n ≤ reachBytes
theorem all_mem {H : Type} {P : Program} {e : TypeId} {d : DataW H} {n : Nat} : ∀ {l : List (DataW H)}, d ∈ l → n ∈ d.weights P e → n ∈ DataW.weightsAll P e l
  | x :: r, h, hn => by
    simp only [DataW.weightsAll, List.mem_append]
    rcases List.mem_cons.1 h with rfl | h
    · exact .inl hn
    · exact .inr (all_mem h hn)

section
variable {H : Type} {enc : TypeId × Value → H} {W : World} {sp : Nat → Bool} {held : Bool} {fuel : Nat}
set_option maxRecDepth 100000 in
theorem open_points {cs : List Value} {x : DataW H × List MemPlace} (h : DataW.trod enc Tryz.prog W 0 sp held fuel 41 cs = some x) :
    ∃ (a : Option Addr) (rs : List Pt) (cap : Nat), cs = [.slice a rs.length cap] ∧ RawAt W a rs ∧ (Within 41 x.1 → rs.length ≤ 8796093021952) := by
  rcases Deep.open_slice Tryz.underlying41 h with ⟨rfl, rfl⟩ | ⟨ad, len, cap, m, n, D, Pl, rfl, _, hl, hm, hmm, rfl, hx⟩
  · exact ⟨none, [], 0, rfl, .inl rfl, fun _ => by simp⟩
  · have hle : len ≤ m := by rw [hmm]; split <;> omega
    have key : ∀ i, ∃ p : Pt, i < len → W.cell? ((ad.add (i * 2)).add 0) = some (.int .i64 p.1) ∧ W.cell? ((ad.add (i * 2)).add 1) = some (.int .i64 p.2) := by
      intro i
      by_cases hi : i < len
      · obtain ⟨cs', h1, h2⟩ := hx i (by omega)
        rw [cellsPt] at h1
        obtain ⟨_, hlen, hc⟩ := World.cells?_some h1
        obtain ⟨y0, y1, n', hxx, _, e0, e1⟩ := trod_struct2 Tryz.underlying37 h2
        match cs', hlen with
        | [c0, c1], _ =>
          simp only [cellsInt, List.drop_zero, List.drop_succ_cons, List.take_succ_cons, List.take_zero] at e0 e1
          obtain ⟨z0, hz0, _, w0⟩ := DataW.trod_int Tryz.underlying3 e0
          obtain ⟨z1, hz1, _, w1⟩ := DataW.trod_int Tryz.underlying3 e1
          simp only [List.cons.injEq, and_true] at hz0 hz1
          subst hz0 hz1
          exact ⟨(z0, z1), fun _ => ⟨hc 0 (by omega), hc 1 (by omega)⟩⟩
      · exact ⟨(0, 0), fun h => absurd h hi⟩
    obtain ⟨f, hf⟩ := Classical.axiomOfChoice key
    refine ⟨some ad, (List.range len).map f, cap, by simp, ?_, ?_⟩
    · by_cases h0 : len = 0
      · subst h0; exact .inl rfl
      · right
        obtain ⟨b, off, spot⟩ := ad
        obtain ⟨q0, q1⟩ := hf 0 (by omega)
        have hspot : spot = none := by simpa [Addr.add] using World.cell?_spot q0
        subst hspot
        rw [add_off, add_off] at q0
        refine ⟨b, off, rfl, World.block_lt_of_cell? W _ q0, ?_⟩
        intro j hj
        have hj' : j < len := by simpa using hj
        obtain ⟨q0, q1⟩ := hf j hj'
        rw [add_off, add_off] at q0 q1
        have e : ((List.range len).map f).getD j (0, 0) = f j := by simp [hj']
        rw [e]
        exact ⟨q0, q1⟩
    · intro hw
      have := hw ((len + (m - len)) * Tryz.prog.bytesOf 37) (by simp [DataW.weights, Tryz.underlying41])
      rw [bytesPt] at this
      have hr : reachBytes = 140737488351232 := by decide
      rw [List.length_map, List.length_range]
      omega

theorem open_int1 {c : List Value} {x : DataW H × List MemPlace} (h : DataW.trod enc Tryz.prog W 0 sp held fuel 3 c = some x) : ∃ z : Int, c = [.int .i64 z] := by
  obtain ⟨z, hz, _⟩ := DataW.trod_int Tryz.underlying3 h
  exact ⟨z, hz⟩
set_option maxRecDepth 100000 in
theorem open_pt1 {c : List Value} {x : DataW H × List MemPlace} (h : DataW.trod enc Tryz.prog W 0 sp held fuel 37 c = some x) : ∃ a b : Int, c = [.int .i64 a, .int .i64 b] := by
  obtain ⟨y0, y1, n', hxx, hl, e0, e1⟩ := trod_struct2 Tryz.underlying37 h
  rw [cellsPt] at hl
  match c, hl with
  | [c0, c1], _ =>
    simp only [cellsInt, List.drop_zero, List.drop_succ_cons, List.take_succ_cons, List.take_zero] at e0 e1
    obtain ⟨z0, hz0⟩ := open_int1 e0
    obtain ⟨z1, hz1⟩ := open_int1 e1
    simp only [List.cons.injEq, and_true] at hz0 hz1
    exact ⟨z0, z1, by rw [hz0, hz1]⟩
theorem open_tris1 {c : List Value} {x : DataW H × List MemPlace} (h : DataW.trod enc Tryz.prog W 0 sp held fuel 42 c = some x) : ∃ a n k, c = [.slice a n k] := by
  rcases Deep.open_slice Tryz.underlying42 h with ⟨rfl, rfl⟩ | ⟨ad, len, cap, m, n, D, Pl, rfl, _⟩
  · exact ⟨none, 0, 0, rfl⟩
  · exact ⟨_, _, _, rfl⟩

set_option maxRecDepth 100000 in
theorem open_op {c : List Value} {x : DataW H × List MemPlace} (h : DataW.trod enc Tryz.prog W 0 sp held fuel 44 c = some x) : ∃ o : OpD, c = o.cells ∧ RawAt W o.la o.l ∧ (Within 44 x.1 → o.l.length ≤ 8796093021952) := by
  obtain ⟨xs, n, _, rfl, hl, hlen, hf⟩ := DataW.trod_struct Tryz.underlying44 h
  rw [cellsOp] at hl
  match c, hl with
  | [v0, v1, v2, v3, v4, v5, v6, v7, v8, v9, v10, v11, v12, v13], _ =>
    match xs, hlen with
    | [y0, y1, y2, y3, y4, y5, y6, y7, y8, y9], _ =>
      have k0 : DataW.trod enc Tryz.prog W 0 sp held n 3 (List.take (Tryz.prog.cellsOf 3) (List.drop 0 [v0, v1, v2, v3, v4, v5, v6, v7, v8, v9, v10, v11, v12, v13])) = some y0 := hf 0 _ rfl
      have k1 : DataW.trod enc Tryz.prog W 0 sp held n 3 (List.take (Tryz.prog.cellsOf 3) (List.drop 1 [v0, v1, v2, v3, v4, v5, v6, v7, v8, v9, v10, v11, v12, v13])) = some y1 := hf 1 _ rfl
      have k2 : DataW.trod enc Tryz.prog W 0 sp held n 3 (List.take (Tryz.prog.cellsOf 3) (List.drop 2 [v0, v1, v2, v3, v4, v5, v6, v7, v8, v9, v10, v11, v12, v13])) = some y2 := hf 2 _ rfl
      have k3 : DataW.trod enc Tryz.prog W 0 sp held n 37 (List.take (Tryz.prog.cellsOf 37) (List.drop 3 [v0, v1, v2, v3, v4, v5, v6, v7, v8, v9, v10, v11, v12, v13])) = some y3 := hf 3 _ rfl
      have k4 : DataW.trod enc Tryz.prog W 0 sp held n 37 (List.take (Tryz.prog.cellsOf 37) (List.drop 5 [v0, v1, v2, v3, v4, v5, v6, v7, v8, v9, v10, v11, v12, v13])) = some y4 := hf 4 _ rfl
      have k5 : DataW.trod enc Tryz.prog W 0 sp held n 37 (List.take (Tryz.prog.cellsOf 37) (List.drop 7 [v0, v1, v2, v3, v4, v5, v6, v7, v8, v9, v10, v11, v12, v13])) = some y5 := hf 5 _ rfl
      have k6 : DataW.trod enc Tryz.prog W 0 sp held n 37 (List.take (Tryz.prog.cellsOf 37) (List.drop 9 [v0, v1, v2, v3, v4, v5, v6, v7, v8, v9, v10, v11, v12, v13])) = some y6 := hf 6 _ rfl
      have k7 : DataW.trod enc Tryz.prog W 0 sp held n 41 (List.take (Tryz.prog.cellsOf 41) (List.drop 11 [v0, v1, v2, v3, v4, v5, v6, v7, v8, v9, v10, v11, v12, v13])) = some y7 := hf 7 _ rfl
      have k8 : DataW.trod enc Tryz.prog W 0 sp held n 42 (List.take (Tryz.prog.cellsOf 42) (List.drop 12 [v0, v1, v2, v3, v4, v5, v6, v7, v8, v9, v10, v11, v12, v13])) = some y8 := hf 8 _ rfl
      have k9 : DataW.trod enc Tryz.prog W 0 sp held n 9 (List.take (Tryz.prog.cellsOf 9) (List.drop 13 [v0, v1, v2, v3, v4, v5, v6, v7, v8, v9, v10, v11, v12, v13])) = some y9 := hf 9 _ rfl
      simp only [cellsInt, cellsPt, cellsPts, cellsTris, cellsStr, List.drop_zero, List.drop_succ_cons, List.take_succ_cons, List.take_zero] at k0 k1 k2 k3 k4 k5 k6 k7 k8 k9
      obtain ⟨z0, e0⟩ := open_int1 k0
      obtain ⟨z1, e1⟩ := open_int1 k1
      obtain ⟨z2, e2⟩ := open_int1 k2
      obtain ⟨a3, b3, e3⟩ := open_pt1 k3
      obtain ⟨a4, b4, e4⟩ := open_pt1 k4
      obtain ⟨a5, b5, e5⟩ := open_pt1 k5
      obtain ⟨a6, b6, e6⟩ := open_pt1 k6
      obtain ⟨la, l, lc, e7, hr, hb⟩ := open_points k7
      obtain ⟨ta, tn, tc, e8⟩ := open_tris1 k8
      obtain ⟨s, e9, _⟩ := DataW.trod_string Tryz.underlying9 k9
      simp only [List.cons.injEq, and_true] at e0 e1 e2 e3 e4 e5 e6 e7 e8 e9
      refine ⟨⟨z0, z1, z2, a3, b3, a4, b4, a5, b5, a6, b6, la, l, lc, ta, tn, tc, s⟩, ?_, hr, ?_⟩
      · simp only [OpD.cells]
        rw [e0, e1, e2, e3.1, e3.2, e4.1, e4.2, e5.1, e5.2, e6.1, e6.2, e7, e8, e9]
      · intro hw
        refine hb fun q hq => hw q ?_
        simp only [DataW.weights, Tryz.underlying44]
        exact DataW.weights_mem_each (j := 7) (t := 41) (d := y7.1) rfl rfl q hq

theorem open_script {c : List Value} {x : DataW H × List MemPlace} (h : DataW.trod enc Tryz.prog W 0 sp held fuel 22 c = some x) (hw : Within 22 x.1) :
    ∃ (a : Option Addr) (os : List OpD) (cap : Nat), c = [.slice a os.length cap] ∧ ScriptAt W.heap.size W a os ∧ os.length ≤ 925904528626 := by
  rcases Deep.open_slice Tryz.underlying22 h with ⟨rfl, rfl⟩ | ⟨ad, len, cap, m, n, D, Pl, rfl, _, hl, hm, hmm, rfl, hx⟩
  · exact ⟨none, [], 0, rfl, fun k hk => by simp at hk, by simp⟩
  · have hle : len ≤ m := by rw [hmm]; split <;> omega
    have hin : ∀ i, i < len → Within 44 (D i) := fun i hi q hq => hw q (by
      simp only [DataW.weights, Tryz.underlying22]
      exact List.mem_cons_of_mem _ (List.mem_append.2 (.inl (all_mem (List.mem_map.2 ⟨i, by simpa using hi, rfl⟩) hq))))
    have key : ∀ i, ∃ o : OpD, i < len → (∀ j, j < 14 → W.cell? ((ad.add (i * 14)).add j) = o.cells[j]?) ∧ RawAt W o.la o.l ∧ o.l.length ≤ 8796093021952 := by
      intro i
      by_cases hi : i < len
      · obtain ⟨cs', h1, h2⟩ := hx i (by omega)
        rw [cellsOp] at h1
        obtain ⟨_, hlen, hc⟩ := World.cells?_some h1
        obtain ⟨o, rfl, hr, hb⟩ := open_op h2
        refine ⟨o, fun _ => ⟨fun j hj => ?_, hr, hb (hin i hi)⟩⟩
        rw [hc j (by omega)]
      · exact ⟨⟨0, 0, 0, 0, 0, 0, 0, 0, 0, 0, 0, none, [], 0, none, 0, 0, .empty⟩, fun h => absurd h hi⟩
    obtain ⟨f, hf⟩ := Classical.axiomOfChoice key
    refine ⟨some ad, (List.range len).map f, cap, by simp, ?_, ?_⟩
    · intro k hk'
      have hk2 : k < len := by simpa using hk'
      have e : ((List.range len).map f)[k] = f k := by simp
      rw [e]
      obtain ⟨hc, hr, hb⟩ := hf k hk2
      obtain ⟨b, off, spot⟩ := ad
      have q0 := (hf 0 (by omega)).1 0 (by omega)
      simp only [OpD.cells, List.getElem?_cons_zero] at q0
      have hspot : spot = none := by simpa [Addr.add] using World.cell?_spot q0
      subst hspot
      rw [add_off, add_off] at q0
      refine ⟨b, off, rfl, World.block_lt_of_cell? W _ q0, fun j hj => ?_, hr, hb⟩
      have := hc j hj
      rwa [add_off, add_off] at this
    · have := hw ((len + (m - len)) * Tryz.prog.bytesOf 44) (by simp [DataW.weights, Tryz.underlying22])
      rw [bytesOp] at this
      have hr : reachBytes = 140737488351232 := by decide
      rw [List.length_map, List.length_range]
      omega
end

set_option maxRecDepth 100000 in
theorem sides_reads (os : Os) {H : Type} (enc : TypeId × Value → H) : ∃ places, DataW.whole enc Tryz.prog ((laidWorld os).forCall (fun _ _ => 0) ⟨#[], #[.slice none 0 0], []⟩).memory Tryz.f3.params.toList Rows.sidesSpec.vars false #[Value.slice none 0 0].toList 8 = some ([.nil], [], places) :=
  ⟨[], by kernel_rfl⟩
set_option maxRecDepth 100000 in
theorem sides_lifted (os : Os) (started : os.Started) (H : Type) (enc : TypeId × Value → H) (F : Stop.Interp) :
    ReturnsInHanded {} Tryz.checked os 3 .any ((OpenSpec.ofChange Rows.sidesSpec).preRow enc Tryz.prog Tryz.f3 Rows.sidesRow.domain false Rows.sidesRow.laid) (((OpenSpec.ofChange Rows.sidesSpec).at F).post enc Tryz.prog Tryz.f3 false true false false) := by
  obtain ⟨places, hx⟩ := sides_reads os enc
  refine returnsInHanded_of_row (C := Tryz.checked) (s := OpenSpec.ofChange Rows.sidesSpec) own started (by kernel_rfl) Tryz.func3
    (witness_row_atRef (enc := enc) (C := Tryz.checked) false (laidWorld os) #[.slice none 0 0] rfl (by kernel_rfl) (by kernel_rfl) (by kernel_rfl)
      (OpenSpec.preRow_of_cond 8 hx (by kernel_rfl) (fun k hk => by cases hk) (by kernel_rfl) (laid_met os _))) ?_
  intro W base args ds gs before hval0 hW hcnd _ hsz0 hL _ _
  have hval : ∀ (j : Nat) t v, Tryz.f3.params[j]? = some t → args[j]? = some v → Value.okWide Tryz.prog W .any base t v := hval0
  have hsz : (DataW.weightsEach Tryz.prog (Tryz.f3.params.toList ++ Rows.sidesSpec.plain.varTypes Tryz.prog) (ds ++ gs)).all (· ≤ reachBytes) = true := hsz0
  have hW' := hW
  obtain ⟨p, q, hA0, hV, rfl, hfz, hnd⟩ := hW
  have hA : DataW.TrodAll enc Tryz.prog W 0 (fun _ => true) true Tryz.f3.params.toList args.toList ds p := hA0
  rw [Tryz.params3] at hA hval hsz
  obtain ⟨v0, vs0, d0, ds0, p0, q0, hargs, rfl, rfl, h0, r0⟩ := trodAll_cons hA
  obtain ⟨rfl, rfl, rfl⟩ := trodAll_nil r0
  obtain rfl : args = #[v0] := by cases args; simp at hargs; rw [hargs]
  obtain ⟨rfl, rfl⟩ := trodVars_none hV
  obtain ⟨a0, len0, cap0, rfl⟩ := okWide_slice Tryz.underlying22 (hval 0 22 v0 rfl rfl)
  have k0 := h0
  have lt0 : ∀ x ∈ p0, x.block < W.heap.size := by obtain ⟨m, hm⟩ := k0; exact DataW.trod_lt m _ _ _ hm
  have hwi : Within 22 d0 := fun n hn => by
    have := List.all_eq_true.1 hsz n (DataW.weights_mem_each (j := 0) (t := 22) (d := d0) rfl rfl n hn)
    exact of_decide_eq_true this
  obtain ⟨os, hos, hs, hl⟩ : ∃ os : List OpD, os.length = len0 ∧ ScriptAt W.heap.size W a0 os ∧ os.length ≤ 925904528626 := by
    obtain ⟨fuel, hf⟩ := h0
    obtain ⟨a, os, cap, e, h1, h2⟩ := open_script hf hwi
    have e2 : Value.slice a0 len0 cap0 = .slice a os.length cap := by simpa [Value.cells] using e
    cases e2
    exact ⟨os, rfl, h1, h2⟩
  subst hos
  clear hA0 hval0 hsz0
  refine (sides_walk a0 cap0 os W hs hl).mono fun e W' ⟨he, bel⟩ => ?_
  subst he
  exact ⟨_, rfl, _, _, _, [], _, [], hW', trodAll_mk1 (shut_bool Tryz.underlying4 _), (trodAll_cons_mk (Below.trod laidOut (by kernel_rfl) (of_decide_eq_true (by kernel_rfl)) k0 bel lt0) trodAll_mk0), rfl, bel.frame _, fun h => by cases h⟩

theorem sides_said : Rows.SidesSaid :=
  OpenClaim.holds_of_cond 3 Tryz.f3 rfl rfl rfl rfl rfl rfl rfl ⟨rfl, rfl, rfl, rfl, rfl⟩ rfl rfl rfl rfl rfl (by kernel_rfl) Tryz.func3 (by kernel_rfl)
    (of_decide_eq_true (by kernel_rfl)) (by unfold Func.isWrapper; first | (rw [if_pos (by decide +kernel)]; kernel_rfl) | (rw [if_neg (by decide +kernel)]; exact ⟨rfl, rfl⟩))
    (fun os started H enc _ F => by rw [OpenClaim.pre_eq_preRow]; exact sides_lifted os started H enc F)
theorem sides_plain (f : FuncId) (fn : Func) (hf : Tryz.pinned.checked.prog.funcNamed "trigon/trigonlaw.Sides" = some f) (hfn : Tryz.pinned.checked.prog.funcs[f]? = some fn) :
    true = Tryz.pinned.checked.prog.looks [] ∧ ∀ (j : Nat) t, fn.params[j]? = some t → Tryz.pinned.checked.prog.wantsStandIn t = false := by
  obtain rfl : f = 3 := Option.some.inj ((show Tryz.prog.funcNamed "trigon/trigonlaw.Sides" = some 3 by kernel_rfl).symm.trans hf) |>.symm
  obtain rfl : fn = Tryz.f3 := (Option.some.inj (Tryz.func3.symm.trans hfn)).symm
  refine ⟨by kernel_rfl, fun j t ht => ?_⟩
  rw [Tryz.params3] at ht
  obtain rfl : t = 22 := by simpa using Array.mem_of_getElem? ht
  exact (show Tryz.prog.wantsStandIn 22 = false by kernel_rfl)
theorem sides_holds : Rows.SidesCardSaid :=
  Claim7.holds_tied_plain_at .later [] _ _ _ _ sides_said (fun _ h => by cases h) (by kernel_rfl) (fun _ h => by cases h) sides_row_tie rfl ⟨rfl, rfl⟩ (by kernel_rfl) rfl sides_plain (by kernel_rfl)

#print axioms sides_holds
end Go.Proofs.YtgpapegpdfonpaaGreatDoor
