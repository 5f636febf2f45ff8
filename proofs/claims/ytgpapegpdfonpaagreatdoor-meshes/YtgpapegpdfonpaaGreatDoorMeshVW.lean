/-
  A script opened: its steps as data, with the range of their raw numbers.
  The statement's part for meshes: World.step of every kind up to 11; World.plays.
  The statement on meshes: its walk.
-/
import Derived.Test.YtgpapegpdfonpaaGreatDoorJoinsC
import Derived.WalkKit
import Derived.ProofKit
import Derived.OpenShut
import Derived.Lib.SmallJoins
import Derived.JoinedOf
import Derived.JoinedAt
import Derived.SizedLaws
import Derived.Deep.Slices
import Derived.ChangeOld
import Derived.Carry
import Derived.Test.YtgpapegpdfonpaaGreatDoorMeshRS
import Derived.Test.YtgpapegpdfonpaaGreatDoorMeshTU
set_option linter.unusedVariables false
set_option linter.unusedSimpArgs false
namespace Go.Proofs.YtgpapegpdfonpaaGreatDoor
open Go.ChangeShapes Go.WideShapes Go.ChangeAt Go.RowKit Go.Joins
theorem own : ownKnob Tryz.prog.godebug = none := by kernel_rfl
theorem laidOut : laidOutB Tryz.prog = true := by kernel_rfl
theorem cellsPt : Tryz.prog.cellsOf 37 = 2 := by kernel_rfl
theorem cellsInt : Tryz.prog.cellsOf 3 = 1 := by kernel_rfl
theorem cellsStr : Tryz.prog.cellsOf 9 = 1 := by kernel_rfl
theorem cellsPts : Tryz.prog.cellsOf 41 = 1 := by kernel_rfl
theorem cellsTris : Tryz.prog.cellsOf 42 = 1 := by kernel_rfl
theorem cellsOp : Tryz.prog.cellsOf 44 = 14 := by kernel_rfl
theorem add_off (b off j : Nat) : (⟨b, off, none⟩ : Addr).add j = ⟨b, off + j, none⟩ := by unfold Addr.add; split <;> simp_all
theorem bytesPt : Tryz.prog.bytesOf 37 = 16 := by kernel_rfl
theorem bytesOp : Tryz.prog.bytesOf 44 = 152 := by kernel_rfl
def Within {H : Type} (t : TypeId) (d : DataW H) : Prop := ∀ n ∈ d.weights Tryz.prog t, n ≤ reachBytes
theorem all_mem {H : Type} {P : Program} {e : TypeId} {d : DataW H} {n : Nat} : ∀ {l : List (DataW H)}, d ∈ l → n ∈ d.weights P e → n ∈ DataW.weightsAll P e l
 | x :: r, h, hn => by
  simp only [DataW.weightsAll, List.mem_append]
  rcases List.mem_cons.1 h with rfl | h
  ·exact .inl hn
  ·exact .inr (all_mem h hn)
theorem bdM {x : Int} (h : (Lit.int .i64 x).wf = true) : -9223372036854775808 ≤ x ∧ x ≤ 9223372036854775807 := by
 simpa [Lit.wf, IntKind.min, IntKind.max, IntKind.signed, IntKind.bits] using h
def RngO (o : OpD) : Prop := (-9223372036854775808 ≤ o.n ∧ o.n ≤ 9223372036854775807) ∧ (-9223372036854775808 ≤ o.wh ∧ o.wh ≤ 9223372036854775807)
def RngAt (os : List OpD) : Prop := ∀ k, (h : k < os.length) → RngO os[k]
section
variable {H : Type} {enc : TypeId × Value → H} {W : World} {sp : Nat → Bool} {held : Bool} {fuel : Nat}
set_option maxRecDepth 100000 in
theorem open_points {cs : List Value} {x : DataW H × List MemPlace} (h : DataW.trod enc Tryz.prog W 0 sp held fuel 41 cs = some x) :
  ∃ (a : Option Addr) (rs : List Pt) (cap : Nat), cs = [.slice a rs.length cap] ∧ RawAt W a rs ∧ (Within 41 x.1 → rs.length ≤ 8796093021952) := by
 rcases Deep.open_slice Tryz.underlying41 h with ⟨rfl, rfl⟩ | ⟨ad, len, cap, m, n, D, Pl, rfl, _, hl, hm, hmm, rfl, hx⟩
 ·exact ⟨none, [], 0, rfl, .inl rfl, fun _ => by simp⟩
 ·have hle : len ≤ m := by rw [hmm]; split <;> omega
  have key : ∀ i, ∃ p : Pt, i < len → W.cell? ((ad.add (i * 2)).add 0) = some (.int .i64 p.1) ∧ W.cell? ((ad.add (i * 2)).add 1) = some (.int .i64 p.2) := by
   intro i
   by_cases hi : i < len
   ·obtain ⟨cs', h1, h2⟩ := hx i (by omega)
    rw [cellsPt] at h1
    obtain ⟨_, hlen, hc⟩ := World.cells?_some h1
    obtain ⟨y0, y1, n', hxx, _, e0, e1⟩ := trod_struct2 Tryz.underlying37 h2
    match cs', hlen with
    | [c0, c1], _ =>
     simp only [cellsInt, List.drop_zero, List.drop_succ_cons, List.take_succ_cons, List.take_zero] at e0 e1
     obtain ⟨z0, hz0, _, w0⟩ := DataW.trod_int Tryz.underlying3 e0
     obtain ⟨z1, hz1, _, w1⟩ := DataW.trod_int Tryz.underlying3 e1
     simp only [List.cons.injEq, and_true] at hz0 hz1
     subst hz0 hz1
     exact ⟨(z0, z1), fun _ => ⟨hc 0 (by omega), hc 1 (by omega)⟩⟩
   ·exact ⟨(0, 0), fun h => absurd h hi⟩
  obtain ⟨f, hf⟩ := Classical.axiomOfChoice key
  refine ⟨some ad, (List.range len).map f, cap, by simp, ?_, ?_⟩
  ·by_cases h0 : len = 0
   ·subst h0; exact .inl rfl
   ·right
    obtain ⟨b, off, spot⟩ := ad
    obtain ⟨q0, q1⟩ := hf 0 (by omega)
    have hspot : spot = none := by simpa [Addr.add] using World.cell?_spot q0
    subst hspot
    rw [add_off, add_off] at q0
    refine ⟨b, off, rfl, World.block_lt_of_cell? W _ q0, ?_⟩
    intro j hj
    have hj' : j < len := by simpa using hj
    obtain ⟨q0, q1⟩ := hf j hj'
    rw [add_off, add_off] at q0 q1
    have e : ((List.range len).map f).getD j (0, 0) = f j := by simp [hj']
    rw [e]
    exact ⟨q0, q1⟩
  ·intro hw
   have := hw ((len + (m - len)) * Tryz.prog.bytesOf 37) (by simp [DataW.weights, Tryz.underlying41])
   rw [bytesPt] at this
   have hr : reachBytes = 140737488351232 := by decide
   rw [List.length_map, List.length_range]
   omega
theorem open_int1 {c : List Value} {x : DataW H × List MemPlace} (h : DataW.trod enc Tryz.prog W 0 sp held fuel 3 c = some x) : ∃ z : Int, c = [.int .i64 z] ∧ -9223372036854775808 ≤ z ∧ z ≤ 9223372036854775807 := by
 obtain ⟨z, hz, _, hw⟩ := DataW.trod_int Tryz.underlying3 h
 exact ⟨z, hz, bdM hw⟩
set_option maxRecDepth 100000 in
theorem open_pt1 {c : List Value} {x : DataW H × List MemPlace} (h : DataW.trod enc Tryz.prog W 0 sp held fuel 37 c = some x) : ∃ a b : Int, c = [.int .i64 a, .int .i64 b] := by
 obtain ⟨y0, y1, n', hxx, hl, e0, e1⟩ := trod_struct2 Tryz.underlying37 h
 rw [cellsPt] at hl
 match c, hl with
 | [c0, c1], _ =>
  simp only [cellsInt, List.drop_zero, List.drop_succ_cons, List.take_succ_cons, List.take_zero] at e0 e1
  obtain ⟨z0, hz0, _⟩ := open_int1 e0
  obtain ⟨z1, hz1, _⟩ := open_int1 e1
  simp only [List.cons.injEq, and_true] at hz0 hz1
  exact ⟨z0, z1, by rw [hz0, hz1]⟩
theorem open_tris1 {c : List Value} {x : DataW H × List MemPlace} (h : DataW.trod enc Tryz.prog W 0 sp held fuel 42 c = some x) : ∃ a n k, c = [.slice a n k] := by
 rcases Deep.open_slice Tryz.underlying42 h with ⟨rfl, rfl⟩ | ⟨ad, len, cap, m, n, D, Pl, rfl, _⟩
 ·exact ⟨none, 0, 0, rfl⟩
 ·exact ⟨_, _, _, rfl⟩
set_option maxRecDepth 100000 in
theorem open_op {c : List Value} {x : DataW H × List MemPlace} (h : DataW.trod enc Tryz.prog W 0 sp held fuel 44 c = some x) : ∃ o : OpD, c = o.cells ∧ RawAt W o.la o.l ∧ (Within 44 x.1 → o.l.length ≤ 8796093021952) ∧ RngO o := by
 obtain ⟨xs, n, _, rfl, hl, hlen, hf⟩ := DataW.trod_struct Tryz.underlying44 h
 rw [cellsOp] at hl
 match c, hl with
 | [v0, v1, v2, v3, v4, v5, v6, v7, v8, v9, v10, v11, v12, v13], _ =>
  match xs, hlen with
  | [y0, y1, y2, y3, y4, y5, y6, y7, y8, y9], _ =>
   have k0 : DataW.trod enc Tryz.prog W 0 sp held n 3 (List.take (Tryz.prog.cellsOf 3) (List.drop 0 [v0, v1, v2, v3, v4, v5, v6, v7, v8, v9, v10, v11, v12, v13])) = some y0 := hf 0 _ rfl
   have k1 : DataW.trod enc Tryz.prog W 0 sp held n 3 (List.take (Tryz.prog.cellsOf 3) (List.drop 1 [v0, v1, v2, v3, v4, v5, v6, v7, v8, v9, v10, v11, v12, v13])) = some y1 := hf 1 _ rfl
   have k2 : DataW.trod enc Tryz.prog W 0 sp held n 3 (List.take (Tryz.prog.cellsOf 3) (List.drop 2 [v0, v1, v2, v3, v4, v5, v6, v7, v8, v9, v10, v11, v12, v13])) = some y2 := hf 2 _ rfl
   have k3 : DataW.trod enc Tryz.prog W 0 sp held n 37 (List.take (Tryz.prog.cellsOf 37) (List.drop 3 [v0, v1, v2, v3, v4, v5, v6, v7, v8, v9, v10, v11, v12, v13])) = some y3 := hf 3 _ rfl
   have k4 : DataW.trod enc Tryz.prog W 0 sp held n 37 (List.take (Tryz.prog.cellsOf 37) (List.drop 5 [v0, v1, v2, v3, v4, v5, v6, v7, v8, v9, v10, v11, v12, v13])) = some y4 := hf 4 _ rfl
   have k5 : DataW.trod enc Tryz.prog W 0 sp held n 37 (List.take (Tryz.prog.cellsOf 37) (List.drop 7 [v0, v1, v2, v3, v4, v5, v6, v7, v8, v9, v10, v11, v12, v13])) = some y5 := hf 5 _ rfl
   have k6 : DataW.trod enc Tryz.prog W 0 sp held n 37 (List.take (Tryz.prog.cellsOf 37) (List.drop 9 [v0, v1, v2, v3, v4, v5, v6, v7, v8, v9, v10, v11, v12, v13])) = some y6 := hf 6 _ rfl
   have k7 : DataW.trod enc Tryz.prog W 0 sp held n 41 (List.take (Tryz.prog.cellsOf 41) (List.drop 11 [v0, v1, v2, v3, v4, v5, v6, v7, v8, v9, v10, v11, v12, v13])) = some y7 := hf 7 _ rfl
   have k8 : DataW.trod enc Tryz.prog W 0 sp held n 42 (List.take (Tryz.prog.cellsOf 42) (List.drop 12 [v0, v1, v2, v3, v4, v5, v6, v7, v8, v9, v10, v11, v12, v13])) = some y8 := hf 8 _ rfl
   have k9 : DataW.trod enc Tryz.prog W 0 sp held n 9 (List.take (Tryz.prog.cellsOf 9) (List.drop 13 [v0, v1, v2, v3, v4, v5, v6, v7, v8, v9, v10, v11, v12, v13])) = some y9 := hf 9 _ rfl
   simp only [cellsInt, cellsPt, cellsPts, cellsTris, cellsStr, List.drop_zero, List.drop_succ_cons, List.take_succ_cons, List.take_zero] at k0 k1 k2 k3 k4 k5 k6 k7 k8 k9
   obtain ⟨z0, e0, r0⟩ := open_int1 k0
   obtain ⟨z1, e1, r1⟩ := open_int1 k1
   obtain ⟨z2, e2, r2⟩ := open_int1 k2
   obtain ⟨a3, b3, e3⟩ := open_pt1 k3
   obtain ⟨a4, b4, e4⟩ := open_pt1 k4
   obtain ⟨a5, b5, e5⟩ := open_pt1 k5
   obtain ⟨a6, b6, e6⟩ := open_pt1 k6
   obtain ⟨la, l, lc, e7, hr, hb⟩ := open_points k7
   obtain ⟨ta, tn, tc, e8⟩ := open_tris1 k8
   obtain ⟨s, e9, _⟩ := DataW.trod_string Tryz.underlying9 k9
   simp only [List.cons.injEq, and_true] at e0 e1 e2 e3 e4 e5 e6 e7 e8 e9
   refine ⟨⟨z0, z1, z2, a3, b3, a4, b4, a5, b5, a6, b6, la, l, lc, ta, tn, tc, s⟩, ?_, hr, ?_, r1, r2⟩
   ·simp only [OpD.cells]
    rw [e0, e1, e2, e3.1, e3.2, e4.1, e4.2, e5.1, e5.2, e6.1, e6.2, e7, e8, e9]
   ·intro hw
    refine hb fun q hq => hw q ?_
    simp only [DataW.weights, Tryz.underlying44]
    exact DataW.weights_mem_each (j := 7) (t := 41) (d := y7.1) rfl rfl q hq
theorem open_script {c : List Value} {x : DataW H × List MemPlace} (h : DataW.trod enc Tryz.prog W 0 sp held fuel 22 c = some x) (hw : Within 22 x.1) :
  ∃ (a : Option Addr) (os : List OpD) (cap : Nat), c = [.slice a os.length cap] ∧ ScriptAt W.heap.size W a os ∧ RngAt os ∧ os.length ≤ 925904528626 := by
 rcases Deep.open_slice Tryz.underlying22 h with ⟨rfl, rfl⟩ | ⟨ad, len, cap, m, n, D, Pl, rfl, _, hl, hm, hmm, rfl, hx⟩
 ·exact ⟨none, [], 0, rfl, (fun k hk => by simp at hk), (fun k hk => by simp at hk), by simp⟩
 ·have hle : len ≤ m := by rw [hmm]; split <;> omega
  have hin : ∀ i, i < len → Within 44 (D i) := fun i hi q hq => hw q (by
    simp only [DataW.weights, Tryz.underlying22]
    exact List.mem_cons_of_mem _ (List.mem_append.2 (.inl (all_mem (List.mem_map.2 ⟨i, by simpa using hi, rfl⟩) hq))))
  have key : ∀ i, ∃ o : OpD, i < len → (∀ j, j < 14 → W.cell? ((ad.add (i * 14)).add j) = o.cells[j]?) ∧ RawAt W o.la o.l ∧ o.l.length ≤ 8796093021952 ∧ RngO o := by
   intro i
   by_cases hi : i < len
   ·obtain ⟨cs', h1, h2⟩ := hx i (by omega)
    rw [cellsOp] at h1
    obtain ⟨_, hlen, hc⟩ := World.cells?_some h1
    obtain ⟨o, rfl, hr, hb, hg⟩ := open_op h2
    refine ⟨o, fun _ => ⟨fun j hj => ?_, hr, hb (hin i hi), hg⟩⟩
    rw [hc j (by omega)]
   ·exact ⟨⟨0, 0, 0, 0, 0, 0, 0, 0, 0, 0, 0, none, [], 0, none, 0, 0, .empty⟩, fun h => absurd h hi⟩
  obtain ⟨f, hf⟩ := Classical.axiomOfChoice key
  refine ⟨some ad, (List.range len).map f, cap, by simp, ?_, ?_, ?_⟩
  ·intro k hk'
   have hk2 : k < len := by simpa using hk'
   have e : ((List.range len).map f)[k] = f k := by simp
   rw [e]
   obtain ⟨hc, hr, hb, _⟩ := hf k hk2
   obtain ⟨b, off, spot⟩ := ad
   have q0 := (hf 0 (by omega)).1 0 (by omega)
   simp only [OpD.cells, List.getElem?_cons_zero] at q0
   have hspot : spot = none := by simpa [Addr.add] using World.cell?_spot q0
   subst hspot
   rw [add_off, add_off] at q0
   refine ⟨b, off, rfl, World.block_lt_of_cell? W _ q0, fun j hj => ?_, hr, hb⟩
   have := hc j hj
   rwa [add_off, add_off] at this
  ·intro k hk'
   have hk2 : k < len := by simpa using hk'
   have e : ((List.range len).map f)[k] = f k := by simp
   rw [e]
   exact (hf k hk2).2.2.2
  ·have := hw ((len + (m - len)) * Tryz.prog.bytesOf 44) (by simp [DataW.weights, Tryz.underlying22])
   rw [bytesOp] at this
   have hr : reachBytes = 140737488351232 := by decide
   rw [List.length_map, List.length_range]
   omega
end
end Go.Proofs.YtgpapegpdfonpaaGreatDoor

namespace Go.Proofs.YtgpapegpdfonpaaGreatDoor
open Go.RowKit
attribute [local go_sem ↓] Go.wp_at_zero Go.wp_at_succ
theorem wstep11 {MAt : MeshPred} (L : MeshLaw MAt) (WB N : Nat) (v0 : Value) (tag : Nat → Nat) (ds : List KD) (kd n wh ax ay bx by' cx cy dx dy : Int) (la : Option Addr) (l : List Pt) (lc : Nat) (ta : Option Addr) (tn tc : Nat) (s : ByteArray) (w : World) (n1 : -9223372036854775808 ≤ n) (n2 : n ≤ 9223372036854775807) (m1 : -9223372036854775808 ≤ wh) (m2 : wh ≤ 9223372036854775807) (h : MW MAt w WB N tag v0 ds) (hN : N ≤ 925904528800) (hr : ForAt tag w la l) (hl : l.length ≤ 8796093021952) (h3 : kd ≤ 11) :
  Calls Tryz.prog 10 #[.pointer (some ⟨WB, 0, none⟩), opVal kd n wh ax ay bx by' cx cy dx dy la l.length lc ta tn tc s] w fun e w' => e = .returned (.bool true) ∧ SPost MAt WB N w w' := by
 by_cases h4 : kd ≤ 4
 ·obtain ⟨a0, c0, rfl⟩ := ownS_any h.row
  refine (wstep4 WB N a0 ds.length c0 tag kd n wh ax ay bx by' cx cy dx dy la l lc ta tn tc s w h.bk hN hr hl h4).mono ?_
  rintro e w' ⟨rfl, hs⟩
  obtain ⟨tag', q⟩ := h.step L hs
  exact ⟨rfl, hs.low h.bk, _, tag', ds, q⟩
 ·by_cases h5 : kd = 5
  ·subst h5
   exact wstep_mesh L WB N v0 tag ds n wh ax ay bx by' cx cy dx dy la l.length lc ta tn tc s w h hN
  ·exact wstep_asks L WB N v0 tag ds kd n wh ax ay bx by' cx cy dx dy la l.length lc ta tn tc s w n1 n2 m1 m2 h hN (by omega) h3
set_option maxHeartbeats 4000000 in
set_option maxRecDepth 100000 in
theorem plays11 {MAt : MeshPred} (L : MeshLaw MAt) (WB : Nat) (v0 : Value) (tag0 : Nat → Nat) (ds0 : List KD) (a : Option Addr) (cap : Nat) (os : List OpD) (w : World) (h : MW MAt w WB 1 tag0 v0 ds0) (hs : ScriptAt WB w a os) (hg : RngAt os) (hl : os.length ≤ 925904528626) :
  Calls Tryz.prog 9 #[.pointer (some ⟨WB, 0, none⟩), .slice a os.length cap, .int .i64 11] w fun e w' => e = .returned (.bool true) ∧ Below WB w w' := by
 have HS : Hid (ScriptAt WB w a os) := hs
 have HG : Hid (RngAt os) := hg
 have HL : Hid (os.length ≤ 925904528626) := hl
 have l20 : (os.length : Int) ≤ 925904528626 := by omega
 clear hs hl hg
 go_enter Tryz.func9, Tryz.ntmps9
 go_wp2
 go_loopw [7] (fun i wr => ∃ k : Nat, k ≤ os.length ∧ i = .int .i64 k ∧ (∃ v0 tag ds, MW MAt wr WB (k + 1) tag v0 ds) ∧ Below WB w wr) (fun i _ => os.length - (intOf i).toNat)
 case atStart => exact ⟨0, by omega, rfl, ⟨v0, tag0, ds0, h⟩, Below.refl _ _⟩
 case round =>
  clear h
  obtain ⟨k, hk, rfl, ⟨v, tag, ds, hB⟩, hb⟩ := hrel
  by_cases hlt : k < os.length
  ·obtain ⟨b, off, rfl, hbW, hc, hlow, hll⟩ := (HS.out.below hb) k hlt
   obtain ⟨⟨n1, n2⟩, m1, m2⟩ := HG.out k hlt
   generalize os[k] = o at *
   obtain ⟨kd, n, wh, ax, ay, bx, by', cx, cy, dx, dy, la, l, lc, ta, tn, tc, s⟩ := o
   have c0 := hc 0 (by omega)
   have c1 := hc 1 (by omega)
   have c2 := hc 2 (by omega)
   have c3 := hc 3 (by omega)
   have c4 := hc 4 (by omega)
   have c5 := hc 5 (by omega)
   have c6 := hc 6 (by omega)
   have c7 := hc 7 (by omega)
   have c8 := hc 8 (by omega)
   have c9 := hc 9 (by omega)
   have c10 := hc 10 (by omega)
   have c11 := hc 11 (by omega)
   have c12 := hc 12 (by omega)
   have c13 := hc 13 (by omega)
   simp only [OpD.cells, List.getElem?_cons_zero, List.getElem?_cons_succ, Nat.add_zero] at c0 c1 c2 c3 c4 c5 c6 c7 c8 c9 c10 c11 c12 c13
   simp only at hlow hll n1 n2 m1 m2
   have x0 : (0 : Int) ≤ (k : Int) := by omega
   have x1 : (k : Int) < (os.length : Int) := by omega
   have x4 : IntKind.i64.wrap ((k : Int) + 1) = (k : Int) + 1 := wrap_id (by omega) (by omega)
   clear hc
   by_cases h3 : kd ≤ 11
   ·have hN : k + 1 ≤ 925904528800 := by have := HL.out; omega
    have hN1 : k + 1 + 1 ≤ 925904529000 := by have := HL.out; omega
    have FS := wstep11 L WB (k + 1) v tag ds kd n wh ax ay bx by' cx cy dx dy la l lc ta tn tc s wr n1 n2 m1 m2 hB hN (hlow.for hB.bk) hll h3
    have FK := fun W v tg (hW : Bks W WB v tg (k + 1 + 1)) => bkeptB_any WB (k + 1 + 1) v tg W hW hN1
    have y3 : ¬ (11 < kd) := by omega
    have HBL : Hid (Below WB w wr) := hb
    clear hB hlow hll hN hN1 hb n1 n2 m1 m2
    go_wp2_with (first
      | (go_at_call 10; refine FS.mono ?_; rintro e w1 ⟨rfl, hb1, v1, tag1, ds1, hM1⟩)
      | (go_at_call 18; refine (FK _ v1 tag1 hM1.bk).mono ?_; rintro e w2 ⟨rfl, hb2⟩))
    have HR : Hid ((∃ v tag ds, MW MAt w2 WB (k + 1 + 1) tag v ds) ∧ Below WB w w2) := ⟨⟨v1, tag1, ds1, hM1.below L hb2⟩, (HBL.out.trans hb1).trans (hb2.mono (Nat.le_of_lt hM1.bk.lt))⟩
    clear hM1 hb1 hb2 FS FK
    go_roundw
    case rel => exact ⟨k + 1, by omega, by go_num, HR.out.1, HR.out.2⟩
    case measure => simp [intOf]; omega
   ·have y3 : 11 < kd := by omega
    have HBL : Hid (MW MAt wr WB (k + 1 + 1) tag v ds ∧ Below WB w wr) := ⟨⟨hB.bk.more (by omega), hB.row, hB.tr, hB.km, fun j hj => by have := hB.ev j hj; omega, by have := hB.len; omega⟩, hb⟩
    clear hB hlow hll hb n1 n2 m1 m2
    go_wp2
    go_roundw
    case rel => exact ⟨k + 1, by omega, by go_num, ⟨v, tag, ds, HBL.out.1⟩, HBL.out.2⟩
    case measure => simp [intOf]; omega
  ·have HBL : Hid (Below WB w wr) := hb
   clear hB hb
   go_wp2
   go_ret
   exact ⟨rfl, HBL.out⟩
theorem mw_new {MAt : MeshPred} (w : World) : MW MAt (w.alloc (.cells #[.slice none 0 0, .slice none 0 0, .slice none 0 0, .slice none 0 0, .slice none 0 0, .slice none 0 0, .slice none 0 0, .int .i64 0] 32)) w.heap.size 0 (fun k => if k = w.heap.size then 4 else 0) (.slice none 0 0) [] :=
 ⟨bk_new w, World.ownsRow_nil _ _ _ _, (fun g hg => by cases hg), (fun j hj => by simp at hj), (fun j hj => by simp at hj), Nat.le_refl _⟩
end Go.Proofs.YtgpapegpdfonpaaGreatDoor

namespace Go.Proofs.YtgpapegpdfonpaaGreatDoor
open Go.RowKit
attribute [local go_sem ↓] Go.wp_at_zero Go.wp_at_succ
set_option maxHeartbeats 2000000 in
set_option maxRecDepth 100000 in
theorem meshes_walk {MAt : MeshPred} (L : MeshLaw MAt) (a : Option Addr) (cap : Nat) (os : List OpD) (w : World) (hs : ScriptAt w.heap.size w a os) (hg : RngAt os) (hl : os.length ≤ 925904528626) :
  Calls Tryz.prog 5 #[.slice a os.length cap] w fun e w' => e = .returned (.bool true) ∧ Below w.heap.size w w' := by
 have HS : Hid (ScriptAt w.heap.size w a os) := hs
 have HG : Hid (RngAt os) := hg
 have HL : Hid (os.length ≤ 925904528626) := hl
 have FS := wstep_mesh L w.heap.size 0 (.slice none 0 0) (fun k => if k = w.heap.size then 4 else 0) [] 0 0 0 0 0 0 0 0 0 0 none 0 0 none 0 0 .empty _ (mw_new (MAt := MAt) w) (by omega)
 clear hs hl hg
 go_enter Tryz.func5, Tryz.ntmps5
 go_upto_region 3 with (go_at_call 10; refine FS.mono ?_; rintro e w1 ⟨rfl, hb1, v1, tag1, ds1, hM1⟩)
 have hb01 : Below w.heap.size w w1 := (below1 _ _).trans hb1
 have FP := plays11 L w.heap.size v1 tag1 ds1 a cap os w1 hM1 (HS.out.below hb01) HG.out HL.out
 clear hM1 hb1 FS
 go_wp2_with (go_at_call 9; refine FP.mono ?_; rintro e w2 ⟨rfl, hb2⟩)
 go_ret
 exact ⟨rfl, hb01.trans hb2⟩
end Go.Proofs.YtgpapegpdfonpaaGreatDoor
