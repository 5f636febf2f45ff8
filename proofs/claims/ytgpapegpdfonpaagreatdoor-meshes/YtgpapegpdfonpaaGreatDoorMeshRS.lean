/-
  The statement's part for meshes: the world of meshes; World.step for the calls on a mesh.
  The statement's part for meshes: World.step for the calls on a mesh.
-/
import Derived.Test.YtgpapegpdfonpaaGreatDoorMeshOQ
set_option linter.unusedVariables false
set_option linter.unusedSimpArgs false
namespace Go.Proofs.YtgpapegpdfonpaaGreatDoor
open Go.RowKit
attribute [local go_sem ↓] Go.wp_at_zero Go.wp_at_succ
def kd0 : KD := ⟨0, 0, ⟨[], [], 0, []⟩, false, []⟩
def ptrK (d : KD) : Value := .pointer (some ⟨d.K, 0, none⟩)
structure MW (MAt : MeshPred) (w : World) (WB N : Nat) (tag : Nat → Nat) (v0 : Value) (ds : List KD) : Prop where
 bk : Bks w WB v0 tag N
 row : w.ownsRow 0 65 1 v0 ds.length (ds.map ptrK)
 tr : ∀ g, v0.ownBlock = some g → tag g = 5
 km : ∀ j, j < ds.length → KM MAt w tag (10 + 2 * j) (11 + 2 * j) (ds.getD j kd0)
 ev : ∀ j, j < ds.length → (ds.getD j kd0).s.ever ≤ N
 len : ds.length ≤ N
theorem Bks.tW {w : World} {WB N : Nat} {v0 : Value} {tag : Nat → Nat} (h : Bks w WB v0 tag N) : tag WB = 4 := by
 obtain ⟨sh, nk, h1, _⟩ := h
 exact h1.tW
theorem KM.keep {MAt : MeshPred} (L : MeshLaw MAt) {w w' : World} {tag tag' : Nat → Nat} {iK iM : Nat} {d : KD} (h : KM MAt w tag iK iM d) (hs : w.heap.size ≤ w'.heap.size) (hk : ∀ k, k < w.heap.size → tag k = iK ∨ tag k = iM → w'.heap[k]? = w.heap[k]? ∧ tag' k = tag k) : KM MAt w' tag' iK iM d := by
 obtain ⟨⟨vP, vN, vT, hA⟩, hM⟩ := h
 exact ⟨⟨vP, vN, vT, hA.keep fun k hk' ht => ⟨(hk k hk' (.inl ht)).1, (hk k hk' (.inl ht)).2.trans ht⟩⟩, L.frame _ _ _ _ _ _ _ hM hs fun k hk' ht => ⟨(hk k hk' (.inr ht)).1, (hk k hk' (.inr ht)).2.trans ht⟩⟩
def SPost (MAt : MeshPred) (WB N : Nat) (w w' : World) : Prop := Below WB w w' ∧ ∃ v0 tag ds, MW MAt w' WB (N + 1) tag v0 ds
section
variable {MAt : MeshPred} {w w' : World} {WB N : Nat} {tag : Nat → Nat} {v0 : Value} {ds : List KD}
theorem MW.step (L : MeshLaw MAt) (h : MW MAt w WB N tag v0 ds) (hs : StepOk WB v0 N tag w w') : ∃ tag', MW MAt w' WB (N + 1) tag' v0 ds := by
 obtain ⟨tag', hB, hag, hch⟩ := hs
 have hW := h.bk.tW
 have kp : ∀ k, k < w.heap.size → 4 < tag k → w'.heap[k]? = w.heap[k]? ∧ tag' k = tag k := fun k hk ht => ⟨hch.far k hk fun hF => by
   rcases hF with rfl | hF <;> omega, hag k hk⟩
 refine ⟨tag', hB, ownS_keep h.row fun g hg => (kp g (ownS_lt h.row hg) (by rw [h.tr g hg]; decide)).1, fun g hg => ?_, fun j hj => (h.km j hj).keep L hch.size fun k hk ht => kp k hk (by omega), fun j hj => ?_, ?_⟩
 ·rw [(kp g (ownS_lt h.row hg) (by rw [h.tr g hg]; decide)).2]; exact h.tr g hg
 ·have := h.ev j hj; omega
 ·have := h.len; omega
theorem APost.low {iK iM : Nat} {d : KD} (h : APost MAt WB N v0 w w' tag iK iM d) (hB : Bks w WB v0 tag N) (h1 : 4 < iK) (h2 : 4 < iM) : Below WB w w' := by
 obtain ⟨tag', d', _, _, _, _, _, hch⟩ := h
 have hlow : ∀ k, k < WB → tag k = 0 := by
  obtain ⟨sh, nk, hb, _⟩ := hB
  exact hb.low
 refine hch.below (Nat.le_of_lt hB.lt) fun k hk hF => ?_
 have := hlow k hk
 rcases hF with (h | h) | h | h <;> omega
theorem MW.ask (L : MeshLaw MAt) (h : MW MAt w WB N tag v0 ds) {j : Nat} (hj : j < ds.length) (ha : APost MAt WB N v0 w w' tag (10 + 2 * j) (11 + 2 * j) (ds.getD j kd0)) : ∃ tag' ds', MW MAt w' WB (N + 1) tag' v0 ds' := by
 obtain ⟨tag', d', hB, hK, eK, hev, hag, hch⟩ := ha
 have hW := h.bk.tW
 have kp : ∀ k, k < w.heap.size → 4 < tag k → tag k ≠ 10 + 2 * j → tag k ≠ 11 + 2 * j → w'.heap[k]? = w.heap[k]? ∧ tag' k = tag k := fun k hk ht t1 t2 => ⟨hch.far k hk fun hF => by
   rcases hF with (rfl | hF) | hF | hF <;> omega, hag k hk⟩
 have emap : (ds.set j d').map ptrK = ds.map ptrK := by
  apply List.ext_getElem (by simp)
  intro i h1 h2
  simp only [List.getElem_map, List.getElem_set]
  split
  ·rename_i e
   subst e
   have : ds.getD j kd0 = ds[j] := by simp [hj]
   rw [this] at eK
   unfold ptrK
   rw [eK]
  ·rfl
 have gd : ∀ i, i < ds.length → (ds.set j d').getD i kd0 = if j = i then d' else ds.getD i kd0 := fun i hi => by
  simp only [List.getD_eq_getElem?_getD, List.getElem?_set]
  split
  ·rename_i e; subst e; simp [hj]
  ·rfl
 have g5 : ∀ g, v0.ownBlock = some g → w'.heap[g]? = w.heap[g]? ∧ tag' g = tag g := fun g hg => by
  have t := h.tr g hg
  exact kp g (ownS_lt h.row hg) (by omega) (by omega) (by omega)
 refine ⟨tag', ds.set j d', hB, ?_, fun g hg => ?_, fun i hi => ?_, fun i hi => ?_, ?_⟩
 ·rw [emap, List.length_set]
  exact ownS_keep h.row fun g hg => (g5 g hg).1
 ·rw [(g5 g hg).2]; exact h.tr g hg
 ·rw [List.length_set] at hi
  rw [gd i hi]
  split
  ·rename_i e; subst e; exact hK
  ·rename_i e
   exact (h.km i hi).keep L hch.size fun k hk ht => kp k hk (by omega) (by omega) (by omega)
 ·rw [List.length_set] at hi
  rw [gd i hi]
  split
  ·have := h.ev j hj; omega
  ·have := h.ev i hi; omega
 ·rw [List.length_set]
  have := h.len; omega
end
theorem asks_any {MAt : MeshPred} (L : MeshLaw MAt) (WB N iK iM : Nat) (v0 : Value) (tag : Nat → Nat) (d : KD) (kd n wh ax ay bx by' cx cy dx dy : Int) (la : Option Addr) (ln lc : Nat) (ta : Option Addr) (tn tc : Nat) (s : ByteArray) (w : World) (n1 : -9223372036854775808 ≤ n) (n2 : n ≤ 9223372036854775807) (hB : Bks w WB v0 tag N) (hN : N ≤ 925904528800) (hK : KM MAt w tag iK iM d) (hev : d.s.ever ≤ 2000000000000) (h1 : 4 < iK) (h2 : 4 < iM) (h3 : iK ≠ iM) (k1 : 6 ≤ kd) (k2 : kd ≤ 11) :
  Calls Tryz.prog 23 #[.pointer (some ⟨WB, 0, none⟩), .pointer (some ⟨d.K, 0, none⟩), opVal kd n wh ax ay bx by' cx cy dx dy la ln lc ta tn tc s] w fun e w' => e = .returned (.bool true) ∧ APost MAt WB N v0 w w' tag iK iM d := by
 have : kd = 6 ∨ kd = 7 ∨ kd = 8 ∨ kd = 9 ∨ kd = 10 ∨ kd = 11 := by omega
 rcases this with rfl | rfl | rfl | rfl | rfl | rfl
 ·exact asks6 L WB N iK iM v0 tag d n wh ax ay bx by' cx cy dx dy la ln lc ta tn tc s w hB hN hK hev h1 h2 h3
 ·exact asks7 L WB N iK iM v0 tag d n wh ax ay bx by' cx cy dx dy la ln lc ta tn tc s w hB hK h1 h2 h3
 ·exact asks8 L WB N iK iM v0 tag d n wh ax ay bx by' cx cy dx dy la ln lc ta tn tc s w n1 n2 hB hK h1 h2 h3
 ·exact asks9 L WB N iK iM v0 tag d n wh ax ay bx by' cx cy dx dy la ln lc ta tn tc s w hB hN hK h1 h2 h3
 ·exact asks10 L WB N iK iM v0 tag d n wh ax ay bx by' cx cy dx dy la ln lc ta tn tc s w hB hN hK h1 h2 h3
 ·exact asks11 L WB N iK iM v0 tag d n wh ax ay bx by' cx cy dx dy la ln lc ta tn tc s w hB hK h1 h2 h3
theorem rowK_place {w : World} {base c : Nat} {a : Option Addr} {ds : List KD} {j : Nat} (h : w.ownsRow base 65 1 (.slice a ds.length c) ds.length (ds.map ptrK)) (hj : j < ds.length) : ∃ g, a = some ⟨g, 0, none⟩ ∧ g < w.heap.size ∧ w.cell? ⟨g, j, none⟩ = some (.pointer (some ⟨(ds.getD j kd0).K, 0, none⟩)) := by
 obtain ⟨g, e, hg, hc⟩ := ownS_place h (by omega)
 refine ⟨g, e, hg, ?_⟩
 rw [hc j (by omega)]
 simp [hj, ptrK]
end Go.Proofs.YtgpapegpdfonpaaGreatDoor

namespace Go.Proofs.YtgpapegpdfonpaaGreatDoor
open Go.RowKit
attribute [local go_sem ↓] Go.wp_at_zero Go.wp_at_succ
set_option maxHeartbeats 4000000 in
set_option maxRecDepth 100000 in
theorem wstep_asks {MAt : MeshPred} (L : MeshLaw MAt) (WB N : Nat) (v0 : Value) (tag : Nat → Nat) (ds : List KD) (kd n wh ax ay bx by' cx cy dx dy : Int) (la : Option Addr) (ln lc : Nat) (ta : Option Addr) (tn tc : Nat) (s : ByteArray) (w : World) (n1 : -9223372036854775808 ≤ n) (n2 : n ≤ 9223372036854775807) (m1 : -9223372036854775808 ≤ wh) (m2 : wh ≤ 9223372036854775807) (h : MW MAt w WB N tag v0 ds) (hN : N ≤ 925904528800) (k1 : 6 ≤ kd) (k2 : kd ≤ 11) :
  Calls Tryz.prog 10 #[.pointer (some ⟨WB, 0, none⟩), opVal kd n wh ax ay bx by' cx cy dx dy la ln lc ta tn tc s] w fun e w' => e = .returned (.bool true) ∧ SPost MAt WB N w w' := by
 obtain ⟨a0, c0', rfl⟩ := ownS_any h.row
 have hWB := h.bk.lt
 have c0 := h.bk.cell0
 have e1 : decide (kd ≤ 3) = false := decide_eq_false (by omega)
 have e2 : decide (kd < 1) = false := decide_eq_false (by omega)
 have e3 : decide (13 < kd) = false := decide_eq_false (by omega)
 have e4 : decide (1 ≤ kd) = true := decide_eq_true (by omega)
 have x4 : (kd == 4) = false := beq_eq_false_iff_ne.2 (by omega)
 have x5 : (kd == 5) = false := beq_eq_false_iff_ne.2 (by omega)
 have x12 : (kd == 12) = false := beq_eq_false_iff_ne.2 (by omega)
 have x13 : (kd == 13) = false := beq_eq_false_iff_ne.2 (by omega)
 have y1 : 1 ≤ kd := by omega
 have y3 : ¬ kd ≤ 3 := by omega
 have y0 : ¬ kd < 1 := by omega
 have yy : ¬ 13 < kd := by omega
 have y4 : ¬ kd = 4 := by omega
 have y5 : ¬ kd = 5 := by omega
 have y12 : ¬ kd = 12 := by omega
 have y13 : ¬ kd = 13 := by omega
 by_cases h0 : ds.length = 0
 ·have HP : ∀ o, SPost MAt WB N w (w.alloc o) := fun o => by
   obtain ⟨tag', q⟩ := h.step L (StepOk.of_below h.bk (below1 w o))
   exact ⟨(below1 w o).mono (Nat.le_of_lt hWB), _, tag', ds, q⟩
  rw [h0] at c0
  clear h
  go_enter Tryz.func10, Tryz.ntmps10
  go_wp2
  go_ret
  exact ⟨rfl, HP _⟩
 ·have hb := pk_bd wh ds.length (by omega)
  obtain ⟨j, hj⟩ := Int.eq_ofNat_of_zero_le hb.1
  have hjl : j < ds.length := by omega
  obtain ⟨g, rfl, hg, cg⟩ := rowK_place h.row hjl
  have hev := h.ev j hjl
  have hdl := h.len
  have FP := fun o => asks_any L WB N (10 + 2 * j) (11 + 2 * j) _ tag (ds.getD j kd0) kd n wh ax ay bx by' cx cy dx dy la ln lc ta tn tc s (w.alloc o).drew n1 n2 (h.bk.below (below1 w o).drew) hN ((h.km j hjl).below L (below1 w o).drew) (by omega) (by omega) (by omega) (by omega) k1 k2
  have HP : ∀ o w', APost MAt WB N (.slice (some ⟨g, 0, none⟩) ds.length c0') (w.alloc o).drew w' tag (10 + 2 * j) (11 + 2 * j) (ds.getD j kd0) → SPost MAt WB N w w' := fun o w' ha => by
   have ha := ha.pre (below1 w o).drew
   obtain ⟨tag', ds', q⟩ := h.ask L hjl ha
   exact ⟨ha.low h.bk (by omega) (by omega), _, tag', ds', q⟩
  have PK := fun W => pickL_any wh ds.length W m1 m2 (by omega) (by omega)
  rw [hj] at PK
  have u0 : (0 : Int) ≤ (j : Int) := by omega
  have u1 : (j : Int) < (ds.length : Int) := by omega
  have z0 : ((ds.length : Int) == 0) = false := beq_eq_false_iff_ne.2 (by omega)
  have z1 : ¬ ((ds.length : Int) = 0) := by omega
  generalize (ds.getD j kd0).K = KK at *
  clear hb hj hev h hdl
  go_enter Tryz.func10, Tryz.ntmps10
  go_upto_region 13 with fail
  go_region_with (first | (go_at_call 24; refine (PK _).mono ?_; rintro e w3 ⟨rfl, rfl⟩) | (go_at_call 23; refine (FP _).mono ?_; rintro e w1 ⟨rfl, hb1⟩))
  all_goals go_wp2_with fail
  all_goals go_ret
  all_goals exact ⟨rfl, HP _ _ hb1⟩
end Go.Proofs.YtgpapegpdfonpaaGreatDoor
