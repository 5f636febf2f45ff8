/-
  The document's own answer for meshes: Locate.
  The statement's own part for meshes: sameTris, places.
-/
import Derived.Test.YtgpapegpdfonpaaGreatDoorMeshAB
import Derived.Test.YtgpapegpdfonpaaGreatDoorNetJL
import Derived.Test.YtgpapegpdfonpaaGreatDoorGivesSow
set_option linter.unusedVariables false
set_option linter.unusedSimpArgs false
namespace Go.Proofs.YtgpapegpdfonpaaGreatDoor
open Go.RowKit
attribute [local go_sem ↓] Go.wp_at_zero Go.wp_at_succ
structure LocW (w W : World) (px py : Int) : Prop where
 bel : Below w.heap.size w W
 size : W.heap.size = w.heap.size + 2
 box : W.heap[w.heap.size]? = some (.cells #[.int .i64 px, .int .i64 py] 37 (0, 0))
 ans : W.heap[w.heap.size + 1]? = some (.cells #[.int .i64 0, .int .i64 0, .int .i64 0, .int .i64 0] 155 (0, 0))
theorem loc_start (w : World) (px py : Int) : LocW w ((w.alloc (.cells #[.int .i64 px, .int .i64 py] 37)).alloc (.cells #[.int .i64 0, .int .i64 0, .int .i64 0, .int .i64 0] 155)) px py := by
 refine ⟨below2 _ _ _, by simp, ?_, ?_⟩
 ·rw [Below.heap_alloc _ _ _ (by simp)]; exact heap_alloc_new _ _
 ·have := heap_alloc_new (w.alloc (.cells #[.int .i64 px, .int .i64 py] 37)) (.cells #[.int .i64 0, .int .i64 0, .int .i64 0, .int .i64 0] 155)
  simpa using this
theorem ans_put {W : World} {R : Nat} {a0 a1 a2 a3 : Value} {T : TypeId} (h : W.heap[R]? = some (.cells #[a0, a1, a2, a3] T (0, 0))) (u0 u1 u2 u3 : Value) :
  ∃ X, (((W.setCell ⟨R, 0, none⟩ u0).setCell ⟨R, 1, none⟩ u1).setCell ⟨R, 2, none⟩ u2).setCell ⟨R, 3, none⟩ u3 = X ∧ X.cell? ⟨R, 0, none⟩ = some u0 ∧ X.cell? ⟨R, 1, none⟩ = some u1 ∧ X.cell? ⟨R, 2, none⟩ = some u2 ∧ X.cell? ⟨R, 3, none⟩ = some u3 ∧ ∀ N, N ≤ R → Below N W X := by
 have k0 := heap_setCell_same W R 0 _ _ u0 h
 have k1 := heap_setCell_same _ R 1 _ _ u1 k0
 have k2 := heap_setCell_same _ R 2 _ _ u2 k1
 have k3 := heap_setCell_same _ R 3 _ _ u3 k2
 refine ⟨_, rfl, ?_, ?_, ?_, ?_, fun N hN => ((((Below.refl N W).setCell (p := ⟨R, 0, none⟩) hN u0).setCell (p := ⟨R, 1, none⟩) hN u1).setCell (p := ⟨R, 2, none⟩) hN u2).setCell (p := ⟨R, 3, none⟩) hN u3⟩ <;> (simp only [World.cell?, k3]; rfl)
theorem ans_cells {W : World} {R : Nat} {a0 a1 a2 a3 : Value} {T : TypeId} (h : W.heap[R]? = some (.cells #[a0, a1, a2, a3] T (0, 0))) :
  W.cell? ⟨R, 0, none⟩ = some a0 ∧ W.cell? ⟨R, 1, none⟩ = some a1 ∧ W.cell? ⟨R, 2, none⟩ = some a2 ∧ W.cell? ⟨R, 3, none⟩ = some a3 ∧ ∀ j, W.frozen? ⟨R, j, none⟩ = false := by
 simp [World.cell?, World.frozen?, h]
theorem run_index_tris (w : World) (g n cap i : Nat) (h : i < n) : (Instr.indexAt 42 (.slice (some ⟨g, 0, none⟩) n cap) (.int .i64 (i : Int))).run Tryz.prog w = .ok (.pointer (some ⟨g, i * 3, none⟩)) w := by
 have h1 : (0 : Int) ≤ (i : Int) := by omega
 have h2 : (i : Int) < (n : Int) := by omega
 go_simp
theorem run_index_arr0 (w : World) (g o : Nat) : (Instr.indexAt 53 (.pointer (some ⟨g, o, none⟩)) (.int .i64 0)).run Tryz.prog w = .ok (.pointer (some ⟨g, o, none⟩)) w := by go_simp
theorem run_index_arr1 (w : World) (g o : Nat) : (Instr.indexAt 53 (.pointer (some ⟨g, o, none⟩)) (.int .i64 1)).run Tryz.prog w = .ok (.pointer (some ⟨g, o + 1, none⟩)) w := by go_simp
theorem run_index_arr2 (w : World) (g o : Nat) : (Instr.indexAt 53 (.pointer (some ⟨g, o, none⟩)) (.int .i64 2)).run Tryz.prog w = .ok (.pointer (some ⟨g, o + 2, none⟩)) w := by go_simp
theorem run_index_ptO (w : World) (g off n cap i : Nat) (h : i < n) : (Instr.indexAt 41 (.slice (some ⟨g, off, none⟩) n cap) (.int .i64 (i : Int))).run Tryz.prog w = .ok (.pointer (some ⟨g, off + i * 2, none⟩)) w := by
 have h1 : (0 : Int) ≤ (i : Int) := by omega
 have h2 : (i : Int) < (n : Int) := by omega
 go_simp
def kdTri (vp vt : Value) (b off g k x y z : Nat) (ax ay bx by2 cx cy : Int) : Nat → Knd
 | 0 => .val vp
 | 1 => .val vt
 | 2 => .val (.int .i64 (k : Int))
 | 3 => .val (.pointer (some ⟨g, k * 3, none⟩))
 | 4 => .val (.pointer (some ⟨g, k * 3, none⟩))
 | 5 => .val (.int .i64 (x : Int))
 | 6 => .val (.pointer (some ⟨b, off + x * 2, none⟩))
 | 7 => .val (pv ax ay)
 | 8 => .val vp
 | 9 => .val vt
 | 10 => .val (.int .i64 (k : Int))
 | 11 => .val (.pointer (some ⟨g, k * 3, none⟩))
 | 12 => .val (.pointer (some ⟨g, k * 3 + 1, none⟩))
 | 13 => .val (.int .i64 (y : Int))
 | 14 => .val (.pointer (some ⟨b, off + y * 2, none⟩))
 | 15 => .val (pv bx by2)
 | 16 => .val vp
 | 17 => .val vt
 | 18 => .val (.int .i64 (k : Int))
 | 19 => .val (.pointer (some ⟨g, k * 3, none⟩))
 | 20 => .val (.pointer (some ⟨g, k * 3 + 2, none⟩))
 | 21 => .val (.int .i64 (z : Int))
 | 22 => .val (.pointer (some ⟨b, off + z * 2, none⟩))
 | 23 => .val (pv cx cy)
 | 24 => .fresh
 | 25 => .fresh
 | 26 => .fresh
 | 27 => .put 24 (.int .i64 ax) (.int .i64 ay)
 | 28 => .put 25 (.int .i64 bx) (.int .i64 by2)
 | 29 => .put 26 (.int .i64 cx) (.int .i64 cy)
 | _ => .val undef
theorem kdTri_put (vp vt : Value) (b off g k x y z : Nat) (ax ay bx by2 cx cy : Int) (q a : Nat) (u v : Value) (h : kdTri vp vt b off g k x y z ax ay bx by2 cx cy q = .put a u v) : q = a + 3 := by
 unfold kdTri at h
 split at h <;> simp at h <;> omega
theorem run_store_pt (w : World) (b : Nat) (c0 c1 : Value) (x y : Int) (h : w.heap[b]? = some (.cells #[c0, c1] 37 (0, 0))) :
  (Instr.storeAt 37 (.pointer (some ⟨b, 0, none⟩)) (pv x y)).run Tryz.prog w = .ok () ((w.setCell ⟨b, 0, none⟩ (.int .i64 x)).setCell ⟨b, 1, none⟩ (.int .i64 y)) := by
 have q0 : w.cell? ⟨b, 0, none⟩ = some c0 := cell_of_heap h 0
 have q1 : w.cell? ⟨b, 1, none⟩ = some c1 := cell_of_heap h 1
 have f0 := frozen_of_heap h 0
 have f1 := frozen_of_heap h 1
 go_simp
set_option maxRecDepth 100000 in
set_option maxHeartbeats 8000000 in
theorem locate_any (b off cap : Nat) (ta : Option Addr) (tc : Nat) (l : List Pt) (ts : List T3) (fl : Bool) (px py : Int) (w : World) (hl : l.length ≤ 60) (htl : ts.length ≤ 4000) (hn : AllNear l) (hpn : Near px py) (hb : b < w.heap.size) (hp : PtsAt w b off l)
  (ht : ts = [] ∨ ∃ g, ta = some ⟨g, 0, none⟩ ∧ g < w.heap.size ∧ TrisAt w g ts) (hfl : fl = true ↔ ∀ i, 2 ≤ i → i < l.length → sd (ptAt l 0) (ptAt l 1) (ptAt l i) = 0)
  (htr : ∀ t ∈ ts, 0 ≤ t.1 ∧ t.1 < l.length ∧ 0 ≤ t.2.1 ∧ t.2.1 < l.length ∧ 0 ≤ t.2.2 ∧ t.2.2 < l.length) :
  Calls Tryz.prog 103 #[.slice (some ⟨b, off, none⟩) l.length cap, .slice ta ts.length tc, .agg #[.int .i64 px, .int .i64 py]] w fun e w' => ∃ k a b c, e = .returned (.agg #[.int .i64 k, .int .i64 a, .int .i64 b, .int .i64 c]) ∧ LocP l ts (allJ l ts fl l.length) (px, py) k a b c ∧ Below w.heap.size w w' := by
 have HN : Hid (AllNear l) := hn
 have HT : Hid (ts = [] ∨ ∃ g, ta = some ⟨g, 0, none⟩ ∧ g < w.heap.size ∧ TrisAt w g ts) := ht
 have HFL : Hid (fl = true ↔ ∀ i, 2 ≤ i → i < l.length → sd (ptAt l 0) (ptAt l 1) (ptAt l i) = 0) := hfl
 have HTR : Hid (∀ t ∈ ts, 0 ≤ t.1 ∧ t.1 < l.length ∧ 0 ≤ t.2.1 ∧ t.2.1 < l.length ∧ 0 ≤ t.2.2 ∧ t.2.2 < l.length) := htr
 have HPN : Hid (Near px py) := hpn
 clear hn ht hfl htr hpn
 go_enter Tryz.func103, Tryz.ntmps103
 go_upto_region 1 with fail
 have HLW := loc_start w px py
 generalize (w.alloc (.cells #[.int .i64 px, .int .i64 py] 37)).alloc (.cells #[.int .i64 0, .int .i64 0, .int .i64 0, .int .i64 0] 155) = W at *
 have HW : Hid (LocW w W px py) := HLW
 have hpW := hp.below HLW.bel hb
 have hbW : b < W.heap.size := by have := HLW.size; omega
 have x0 : W.cell? ⟨w.heap.size, 0, none⟩ = some (.int .i64 px) := by simp [World.cell?, HLW.box]
 have x1 : W.cell? ⟨w.heap.size, 1, none⟩ = some (.int .i64 py) := by simp [World.cell?, HLW.box]
 clear HLW
 go_upto_block 0 with fail
 go_cut [7] (fun _ wx => (∀ i, i < l.length → ptAt l i ≠ (px, py)) ∧ Below W.heap.size W wx)
 case first =>
  as_aux_lemma =>
  go_wp2_with fail
  go_loopw [7] (fun s7 wr => ∃ k : Nat, k ≤ l.length ∧ s7 = .int .i64 k ∧ (∀ i, i < k → ptAt l i ≠ (px, py)) ∧ ∃ n, wr = W.drewN n) (fun i _ => l.length - (intOf i).toNat)
  case atStart => exact ⟨0, Nat.zero_le _, rfl, fun i hi => by omega, 0, rfl⟩
  case round =>
   obtain ⟨k, hk, rfl, hno, n, rfl⟩ := hrel
   by_cases hkl : k < l.length
   ·obtain ⟨c0, c1⟩ := hpW k hkl
    have y0 : (0 : Int) ≤ (k : Int) := by omega
    have y1 : (k : Int) < (l.length : Int) := by omega
    have y4 : IntKind.i64.wrap ((k : Int) + 1) = (k : Int) + 1 := wrap_id (by omega) (by omega)
    have HNO : Hid (∀ i, i < k → ptAt l i ≠ (px, py)) := hno
    have eP : ptAt l k = ((l.getD k (0, 0)).1, (l.getD k (0, 0)).2) := rfl
    have HEP : Hid (ptAt l k = ((l.getD k (0, 0)).1, (l.getD k (0, 0)).2)) := eP
    clear hno eP
    generalize (l.getD k (0, 0)).1 = qx at *
    generalize (l.getD k (0, 0)).2 = qy at *
    have HNX : Hid (¬ (qx = px ∧ qy = py) → ∀ i, i < k + 1 → ptAt l i ≠ (px, py)) := fun he i hi => by
     by_cases e : i = k
     ·subst e; rw [HEP.out]; intro e'; exact he ⟨(Prod.mk.inj e').1, (Prod.mk.inj e').2⟩
     ·exact HNO.out i (by omega)
    by_cases e1 : qx = px
    ·by_cases e2 : qy = py
     ·subst e1 e2
      have HR : Hid (LocP l ts (allJ l ts fl l.length) (qx, qy) 3 k (-1) (-1)) := .inl ⟨k, hkl, HEP.out, rfl, rfl, rfl, rfl⟩
      clear HNX HNO
      go_wp2_with fail
      go_quiet (fail)
      have HANS : Hid ((W.drewN (n + nq)).heap[w.heap.size + 1]? = some (.cells #[.int .i64 0, .int .i64 0, .int .i64 0, .int .i64 0] 155 (0, 0))) := HW.out.ans
      have hbq : Below w.heap.size w (W.drewN (n + nq)) := below_drewN HW.out.bel
      have HBQ : Hid (Below w.heap.size w (W.drewN (n + nq))) := hbq
      rw [World.drewN_drewN]
      clear c0 c1 x0 x1 hbq
      generalize W.drewN (n + nq) = Y at *
      obtain ⟨a0, a1, a2, a3, af⟩ := ans_cells HANS.out
      have f0 := af 0
      have f1 := af 1
      have f2 := af 2
      have f3 := af 3
      obtain ⟨X, hX, z0, z1, z2, z3, hbX⟩ := ans_put HANS.out (.int .i64 3) (.int .i64 (k : Int)) (.int .i64 (-1)) (.int .i64 (-1))
      have HBX : Hid (Below w.heap.size w X) := HBQ.out.trans (hbX w.heap.size (by omega))
      clear af hbX HBQ HANS
      go_wp2
      refine bodyPost_ret (v := .agg #[.int .i64 3, .int .i64 (k : Int), .int .i64 (-1), .int .i64 (-1)]) (by simp [results, Tryz.results103, go_sem, z0, z1, z2, z3]) rfl ⟨3, k, -1, -1, rfl, HR.out, HBX.out⟩
     ·have HNO2 : Hid (∀ i, i < k + 1 → ptAt l i ≠ (px, py)) := HNX.out fun h => e2 h.2
      clear HNX
      clear HNO HEP
      go_wp2_with fail
      go_quiet (fail)
      go_wp2
      go_roundw
      case rel => exact ⟨k + 1, by omega, by go_num, HNO2.out, _, by first | rfl | simp [World.drewN_drewN]⟩
      case measure => simp [intOf]; omega
    ·have HNO2 : Hid (∀ i, i < k + 1 → ptAt l i ≠ (px, py)) := HNX.out fun h => e1 h.1
     clear HNX
     clear HNO HEP
     go_wp2_with fail
     go_quiet (fail)
     go_wp2
     go_roundw
     case rel => exact ⟨k + 1, by omega, by go_num, HNO2.out, _, by first | rfl | simp [World.drewN_drewN]⟩
     case measure => simp [intOf]; omega
   ·have HNO : Hid ((∀ i, i < l.length → ptAt l i ≠ (px, py)) ∧ Below W.heap.size W (W.drewN n)) := ⟨fun i hi => hno i (by omega), below_drewN (Below.refl _ _)⟩
    clear hno
    go_wp2
    go_meet
    case rel => exact HNO.out
 case rest =>
  as_aux_lemma =>
  obtain ⟨hno, hbx⟩ := hcut
  have HNO : Hid (∀ i, i < l.length → ptAt l i ≠ (px, py)) := hno
  have hwV : Below w.heap.size w wc := HW.out.bel.trans (hbx.mono HW.out.bel.size)
  have hpV := hp.below hwV hb
  have hbV : b < wc.heap.size := Nat.lt_of_lt_of_le hb hwV.size
  have JC := joined_any b off cap ta tc l ts fl wc hl htl HN.out hbV hpV (by
    rcases HT.out with h | ⟨g, e, hg, h⟩
    · exact .inl h
    · exact .inr ⟨g, e, Nat.lt_of_lt_of_le hg hwV.size, h.below hwV hg⟩) HFL.out
  have HJM : Hid (∀ q ∈ allJ l ts fl l.length, q.1 < l.length ∧ q.2 < l.length) := fun q hq => by
   have := mem_allJ.1 (show (q.1, q.2) ∈ allJ l ts fl l.length from hq)
   exact ⟨this.1, this.2.2.1⟩
  have HJL : Hid ((allJ l ts fl l.length).length ≤ 3600) := by
   have h1 := allJ_len l ts fl l.length
   have h2 : l.length * l.length ≤ 60 * 60 := Nat.mul_le_mul hl hl
   show (allJ l ts fl l.length).length ≤ 3600
   omega
  clear hno hpV hbV
  go_upto_region 7 with (go_at_call 129; refine JC.mono ?_; rintro e w2 ⟨jv, rfl, hown2, hb2⟩)
  generalize hJJ : allJ l ts fl l.length = J at *
  have HJE : Hid (allJ l ts fl l.length = J) := hJJ
  clear hJJ
  have hbW2 : Below W.heap.size W w2 := hbx.trans (hb2.mono hbx.size)
  have hw2 : Below w.heap.size w w2 := hwV.trans (hb2.mono hwV.size)
  obtain ⟨ja, jc, rfl⟩ := ownS_any hown2
  have HJA : Hid (∀ k (hk : k < J.length), ∃ g, ja = some ⟨g, 0, none⟩ ∧ g < w2.heap.size ∧ w2.cell? ⟨g, k * 2, none⟩ = some (.int .i64 (J[k].1 : Int)) ∧ w2.cell? ⟨g, k * 2 + 1, none⟩ = some (.int .i64 (J[k].2 : Int))) := fun k hk => by
   obtain ⟨g, e, hg, hc⟩ := ownS_place hown2 (by omega)
   obtain ⟨e1, e2⟩ := flat2_get J k hk
   exact ⟨g, e, hg, by rw [hc _ (by omega), e1], by rw [hc _ (by omega), e2]⟩
  have hsW : W.heap.size = w.heap.size + 2 := HW.out.size
  have q0 : w2.cell? ⟨w.heap.size, 0, none⟩ = some (.int .i64 px) := (hbW2.cell (p := ⟨w.heap.size, 0, none⟩) (by show w.heap.size < W.heap.size; omega)).trans x0
  have q1 : w2.cell? ⟨w.heap.size, 1, none⟩ = some (.int .i64 py) := (hbW2.cell (p := ⟨w.heap.size, 1, none⟩) (by show w.heap.size < W.heap.size; omega)).trans x1
  have HANS : Hid (w2.heap[w.heap.size + 1]? = some (.cells #[.int .i64 0, .int .i64 0, .int .i64 0, .int .i64 0] 155 (0, 0))) := (hbW2.block _ (by omega)).trans HW.out.ans
  have hs2 : w.heap.size + 2 ≤ w2.heap.size := by have := hbW2.size; omega
  have hp2 := hp.below hw2 hb
  have hb2' : b < w2.heap.size := Nat.lt_of_lt_of_le hb hw2.size
  clear JC hown2 hb2 hbx hwV hbW2 x0 x1 hpW hbW HFL HW hsW
  generalize w2 = V at *
  go_upto_block 2 with fail
  go_cut [9] (fun _ wx => (∀ q ∈ J, ¬ onSeg (px, py) (ptAt l q.1) (ptAt l q.2)) ∧ Below V.heap.size V wx)
  case first =>
   as_aux_lemma =>
   go_wp2_with fail
   go_loopw [9] (fun s9 wr => ∃ k : Nat, k ≤ J.length ∧ s9 = .int .i64 k ∧ (∀ i (hi : i < J.length), i < k → ¬ onSeg (px, py) (ptAt l J[i].1) (ptAt l J[i].2)) ∧ Below V.heap.size V wr) (fun i _ => J.length - (intOf i).toNat)
   case atStart => exact ⟨0, Nat.zero_le _, rfl, fun i _ hi => by omega, Below.refl _ _⟩
   case round =>
    obtain ⟨k, hk, rfl, hsg, hbr⟩ := hrel
    have HSG : Hid (∀ i (hi : i < J.length), i < k → ¬ onSeg (px, py) (ptAt l J[i].1) (ptAt l J[i].2)) := hsg
    have hk36 : k ≤ 3600 := by have := HJL.out; omega
    clear hsg
    by_cases hkl : k < J.length
    ·obtain ⟨g, rfl, hg, j0, j1⟩ := HJA.out k hkl
     replace j0 := (hbr.cell (p := ⟨g, k * 2, none⟩) hg).trans j0
     replace j1 := (hbr.cell (p := ⟨g, k * 2 + 1, none⟩) hg).trans j1
     obtain ⟨hx, hy⟩ := HJM.out J[k] (List.getElem_mem hkl)
     have HIN : Hid (J[k] ∈ J) := List.getElem_mem hkl
     have HNX : Hid (¬ onSeg (px, py) (ptAt l J[k].1) (ptAt l J[k].2) → ∀ i (hi : i < J.length), i < k + 1 → ¬ onSeg (px, py) (ptAt l J[i].1) (ptAt l J[i].2)) := fun h i hi hik => by
      by_cases e : i = k
      ·subst e; exact h
      ·exact HSG.out i hi (by omega)
     obtain ⟨d0, d1⟩ := (hp2.below hbr hb2') J[k].1 hx
     obtain ⟨d2, d3⟩ := (hp2.below hbr hb2') J[k].2 hy
     have NA : Hid (Near (l.getD J[k].1 (0, 0)).1 (l.getD J[k].1 (0, 0)).2) := HN.out _ hx
     have NB : Hid (Near (l.getD J[k].2 (0, 0)).1 (l.getD J[k].2 (0, 0)).2) := HN.out _ hy
     have eA : Hid (ptAt l J[k].1 = ((l.getD J[k].1 (0, 0)).1, (l.getD J[k].1 (0, 0)).2)) := rfl
     have eB : Hid (ptAt l J[k].2 = ((l.getD J[k].2 (0, 0)).1, (l.getD J[k].2 (0, 0)).2)) := rfl
     have hgr : g < wr.heap.size := Nat.lt_of_lt_of_le hg hbr.size
     have hbr' : b < wr.heap.size := Nat.lt_of_lt_of_le hb2' hbr.size
     clear HSG
     obtain ⟨x, hxe⟩ : ∃ x, x = J[k].1 := ⟨_, rfl⟩
     obtain ⟨y, hye⟩ : ∃ y, y = J[k].2 := ⟨_, rfl⟩
     have HXY : Hid (x = J[k].1 ∧ y = J[k].2) := ⟨hxe, hye⟩
     rw [← hxe] at j0 hx HNX d0 d1 NA eA
     rw [← hye] at j1 hy HNX d2 d3 NB eB
     clear hxe hye
     generalize (l.getD x (0, 0)).1 = ax at *
     generalize (l.getD x (0, 0)).2 = ay at *
     generalize (l.getD y (0, 0)).1 = bx at *
     generalize (l.getD y (0, 0)).2 = by2 at *
     have y0 : (0 : Int) ≤ (k : Int) := by omega
     have y1 : (k : Int) < (J.length : Int) := by omega
     have y2 : (0 : Int) ≤ (x : Int) := by omega
     have y3 : (x : Int) < (l.length : Int) := by omega
     have y4 : (0 : Int) ≤ (y : Int) := by omega
     have y5 : (y : Int) < (l.length : Int) := by omega
     have y6 : IntKind.i64.wrap ((k : Int) + 1) = (k : Int) + 1 := wrap_id (by omega) (by omega)
     go_wp2_with fail
     go_cut [10, 11] (fun s10 s11 wx => ∃ p q, s10 = .pointer (some ⟨p, 0, none⟩) ∧ s11 = .pointer (some ⟨q, 0, none⟩) ∧ p < wx.heap.size ∧ q < wx.heap.size ∧
       wx.cell? ⟨p, 0, none⟩ = some (.int .i64 ax) ∧ wx.cell? ⟨p, 1, none⟩ = some (.int .i64 ay) ∧ wx.cell? ⟨q, 0, none⟩ = some (.int .i64 bx) ∧ wx.cell? ⟨q, 1, none⟩ = some (.int .i64 by2) ∧ Below wr.heap.size wr wx)
     case first =>
      as_aux_lemma =>
      clear HN HT HTR HPN HNO HJM HJL HJA HANS HIN HNX NA NB eA eB HXY hp hp2 q0 q1
      go_region
      all_goals go_wp2_with fail
      all_goals go_meet
      all_goals
       refine ⟨_, _, rfl, rfl, by simp <;> omega, by simp <;> omega, ?_, ?_, ?_, ?_, (below2 _ _ _).drew⟩
       all_goals first
        | (simp [go_sem]; done)
        | (rw [World.cell?_drew, World.cell?_alloc_at _ _ _ _ (by simp)]; rfl)
     case rest =>
      as_aux_lemma =>
      obtain ⟨p, q, rfl, rfl, hpz, hqz, p0, p1, r0, r1, hbc⟩ := hcut
      have hbY := hbr.trans (hbc.mono hbr.size)
      replace j0 := (hbc.cell (p := ⟨g, k * 2, none⟩) hgr).trans j0
      replace j1 := (hbc.cell (p := ⟨g, k * 2 + 1, none⟩) hgr).trans j1
      replace q0 := (hbY.cell (p := ⟨w.heap.size, 0, none⟩) (by show w.heap.size < V.heap.size; omega)).trans q0
      replace q1 := (hbY.cell (p := ⟨w.heap.size, 1, none⟩) (by show w.heap.size < V.heap.size; omega)).trans q1
      have hgY : g < wc.heap.size := Nat.lt_of_lt_of_le hgr hbc.size
      clear d0 d1 d2 d3 hbr hbc hgr hbr' y2 y3 y4 y5
      generalize wc = Y at *
      have SC := fun W => rside_any ax ay bx by2 px py W NA.out NB.out HPN.out
      have TC := fun W => between_any ax ay bx by2 px py W NA.out NB.out HPN.out
      have HSD : Hid (sideN ax ay bx by2 px py = sd (ptAt l x) (ptAt l y) (px, py)) := by unfold Hid; rw [eA.out, eB.out]; rfl
      have HDT : Hid (dt (ax, ay) (bx, by2) (px, py) = dt (ptAt l x) (ptAt l y) (px, py)) := by unfold Hid; rw [eA.out, eB.out]
      clear NA NB eA eB
      generalize sideN ax ay bx by2 px py = S at *
      generalize dt (ax, ay) (bx, by2) (px, py) = D at *
      by_cases hS : S = 0
      ·rw [(sg_zero_iff S).2 hS] at SC
       by_cases hD : D < 0
       ·rw [decide_eq_true hD] at TC
        have HR : Hid (LocP l ts J (px, py) 2 x y (-1)) := by
         refine .inr (.inl ⟨HNO.out, J[k], HIN.out, ?_, rfl, by rw [HXY.out.1], by rw [HXY.out.2], rfl⟩)
         rw [← HXY.out.1, ← HXY.out.2]
         exact ⟨by rw [← HSD.out]; exact hS, by rw [← HDT.out]; exact hD⟩
        clear HNX HSD HDT hS hD HIN HXY
        go_upto_region 12 with (first
          | (go_at_call 87; refine (SC _).mono ?_; rintro e w5 ⟨rfl, hb5⟩
             replace p0 := (hb5.cell (p := ⟨p, 0, none⟩) hpz).trans p0
             replace p1 := (hb5.cell (p := ⟨p, 1, none⟩) hpz).trans p1
             replace r0 := (hb5.cell (p := ⟨q, 0, none⟩) hqz).trans r0
             replace r1 := (hb5.cell (p := ⟨q, 1, none⟩) hqz).trans r1
             replace q0 := (hb5.cell (p := ⟨w.heap.size, 0, none⟩) (by have := hbY.size; show w.heap.size < Y.heap.size; omega)).trans q0
             replace q1 := (hb5.cell (p := ⟨w.heap.size, 1, none⟩) (by have := hbY.size; show w.heap.size < Y.heap.size; omega)).trans q1)
          | (go_at_call 123; refine (TC _).mono ?_; rintro e w6 ⟨rfl, hb6⟩))
        have hbZ := (hbY.trans (hb5.mono hbY.size)).trans (hb6.mono (hbY.trans (hb5.mono hbY.size)).size)
        have hbYZ := hb5.trans (hb6.mono hb5.size)
        replace j0 := (hbYZ.cell (p := ⟨g, k * 2, none⟩) hgY).trans j0
        replace j1 := (hbYZ.cell (p := ⟨g, k * 2 + 1, none⟩) hgY).trans j1
        have hgZ : g < w6.heap.size := Nat.lt_of_lt_of_le hgY hbYZ.size
        have HANZ : Hid (w6.heap[w.heap.size + 1]? = some (.cells #[.int .i64 0, .int .i64 0, .int .i64 0, .int .i64 0] 155 (0, 0))) := (hbZ.block _ (by omega)).trans HANS.out
        have HBZ : Hid (Below w.heap.size w w6) := hw2.trans (hbZ.mono hw2.size)
        have hsZ : w.heap.size + 2 ≤ w6.heap.size := by have := hbZ.size; omega
        clear p0 p1 r0 r1 q0 q1 hb5 hb6 hbYZ hbZ SC TC hbY HANS hgY
        generalize w6 = Z at *
        obtain ⟨a0, a1, a2, a3, af⟩ := ans_cells HANZ.out
        have f0 := af 0
        have f1 := af 1
        have f2 := af 2
        have f3 := af 3
        obtain ⟨X, hX, z0, z1, z2, z3, hbX⟩ := ans_put HANZ.out (.int .i64 2) (.int .i64 (x : Int)) (.int .i64 (y : Int)) (.int .i64 (-1))
        have HX : Hid ((((Z.setCell ⟨w.heap.size + 1, 0, none⟩ (.int .i64 2)).setCell ⟨w.heap.size + 1, 1, none⟩ (.int .i64 (x : Int))).setCell ⟨w.heap.size + 1, 2, none⟩ (.int .i64 (y : Int))).setCell ⟨w.heap.size + 1, 3, none⟩ (.int .i64 (-1)) = X) := hX
        have HBX : Hid (Below w.heap.size w X) := HBZ.out.trans (hbX w.heap.size (by omega))
        clear af hX hbX HBZ HANZ
        go_region
        all_goals go_wp2_with fail
        rw [HX.out]
        refine bodyPost_ret (v := .agg #[.int .i64 2, .int .i64 (x : Int), .int .i64 (y : Int), .int .i64 (-1)]) (by simp [results, Tryz.results103, go_sem, z0, z1, z2, z3]) rfl ⟨2, x, y, -1, rfl, by rw [HJE.out]; exact HR.out, HBX.out.drew⟩
       ·rw [decide_eq_false hD] at TC
        have HN2 : Hid (∀ i (hi : i < J.length), i < k + 1 → ¬ onSeg (px, py) (ptAt l J[i].1) (ptAt l J[i].2)) := HNX.out fun h => hD (by rw [HDT.out]; exact h.2)
        clear HNX HSD HDT hS hD HIN HXY
        go_wp2_with (first
          | (go_at_call 87; refine (SC _).mono ?_; rintro e w5 ⟨rfl, hb5⟩
             replace p0 := (hb5.cell (p := ⟨p, 0, none⟩) hpz).trans p0
             replace p1 := (hb5.cell (p := ⟨p, 1, none⟩) hpz).trans p1
             replace r0 := (hb5.cell (p := ⟨q, 0, none⟩) hqz).trans r0
             replace r1 := (hb5.cell (p := ⟨q, 1, none⟩) hqz).trans r1
             replace q0 := (hb5.cell (p := ⟨w.heap.size, 0, none⟩) (by have := hbY.size; show w.heap.size < Y.heap.size; omega)).trans q0
             replace q1 := (hb5.cell (p := ⟨w.heap.size, 1, none⟩) (by have := hbY.size; show w.heap.size < Y.heap.size; omega)).trans q1)
          | (go_at_call 123; refine (TC _).mono ?_; rintro e w6 ⟨rfl, hb6⟩))
        have hbZ := (hbY.trans (hb5.mono hbY.size)).trans (hb6.mono (hbY.trans (hb5.mono hbY.size)).size)
        clear p0 p1 r0 r1 q0 q1 hb5 hb6
        go_roundw
        case rel => exact ⟨k + 1, by omega, by go_num, HN2.out, hbZ⟩
        case measure => simp [intOf]; omega
      ·have hsz : (sg S == 0) = false := beq_eq_false_iff_ne.2 fun h => hS ((sg_zero_iff S).1 h)
       have HN2 : Hid (∀ i (hi : i < J.length), i < k + 1 → ¬ onSeg (px, py) (ptAt l J[i].1) (ptAt l J[i].2)) := HNX.out fun h => hS (by rw [HSD.out]; exact h.1)
       clear HNX HSD HDT hS HIN HXY TC
       generalize sg S = rS at *
       go_wp2_with (go_at_call 87; refine (SC _).mono ?_; rintro e w5 ⟨rfl, hb5⟩)
       have hbZ := hbY.trans (hb5.mono hbY.size)
       clear p0 p1 r0 r1 q0 q1 hb5
       go_roundw
       case rel => exact ⟨k + 1, by omega, by go_num, HN2.out, hbZ⟩
       case measure => simp [intOf]; omega
    ·have HR : Hid (∀ q ∈ J, ¬ onSeg (px, py) (ptAt l q.1) (ptAt l q.2)) := fun q hq => by
      obtain ⟨i, hi, rfl⟩ := List.getElem_of_mem hq
      exact HSG.out i hi (by omega)
     clear HSG
     go_wp2
     go_meet
     case rel => exact ⟨HR.out, hbr⟩
  case rest =>
   as_aux_lemma =>
   obtain ⟨hnj, hbx⟩ := hcut
   have HNJ : Hid (∀ q ∈ J, ¬ onSeg (px, py) (ptAt l q.1) (ptAt l q.2)) := hnj
   have hw3 : Below w.heap.size w wc := hw2.trans (hbx.mono hw2.size)
   replace q0 := (hbx.cell (p := ⟨w.heap.size, 0, none⟩) (by show w.heap.size < V.heap.size; omega)).trans q0
   replace q1 := (hbx.cell (p := ⟨w.heap.size, 1, none⟩) (by show w.heap.size < V.heap.size; omega)).trans q1
   have HAN3 : Hid (wc.heap[w.heap.size + 1]? = some (.cells #[.int .i64 0, .int .i64 0, .int .i64 0, .int .i64 0] 155 (0, 0))) := (hbx.block _ (by omega)).trans HANS.out
   have hs3 : w.heap.size + 2 ≤ wc.heap.size := by have := hbx.size; omega
   have hp3 := hp.below hw3 hb
   have hb3 : b < wc.heap.size := Nat.lt_of_lt_of_le hb hw3.size
   have HTA : Hid (∀ k, k < ts.length → ∃ g, ta = some ⟨g, 0, none⟩ ∧ g < wc.heap.size ∧ wc.cell? ⟨g, k * 3, none⟩ = some (iv (ts.getD k (0, 0, 0)).1) ∧ wc.cell? ⟨g, k * 3 + 1, none⟩ = some (iv (ts.getD k (0, 0, 0)).2.1) ∧ wc.cell? ⟨g, k * 3 + 2, none⟩ = some (iv (ts.getD k (0, 0, 0)).2.2)) := fun k hk => by
    rcases HT.out with h | ⟨g, e, hg, h⟩
    ·rw [h] at hk; simp at hk
    ·obtain ⟨h1, h2, h3⟩ := (h.below hw3 hg) k hk
     exact ⟨g, e, Nat.lt_of_lt_of_le hg hw3.size, h1, h2, h3⟩
   clear hnj hbx hw2 HANS hs2 hp2 hb2' HJA HJM HJL HT
   generalize wc = V3 at *
   go_wp2_with fail
   go_loopw [12] (fun s12 wr => ∃ k : Nat, k ≤ ts.length ∧ s12 = .int .i64 k ∧ (∀ i, i < k → ¬ inTri l (px, py) (ts.getD i (0, 0, 0))) ∧ Below V3.heap.size V3 wr) (fun i _ => ts.length - (intOf i).toNat)
   case atStart => exact ⟨0, Nat.zero_le _, rfl, fun i hi => by omega, Below.refl _ _⟩
   case round =>
    obtain ⟨k, hk, rfl, hsg, hbr⟩ := hrel
    have HSG : Hid (∀ i, i < k → ¬ inTri l (px, py) (ts.getD i (0, 0, 0))) := hsg
    clear hsg
    by_cases hkl : k < ts.length
    ·obtain ⟨g, rfl, hg, t0, t1, t2⟩ := HTA.out k hkl
     replace t0 := (hbr.cell (p := ⟨g, k * 3, none⟩) hg).trans t0
     replace t1 := (hbr.cell (p := ⟨g, k * 3 + 1, none⟩) hg).trans t1
     replace t2 := (hbr.cell (p := ⟨g, k * 3 + 2, none⟩) hg).trans t2
     have hmem : ts.getD k (0, 0, 0) ∈ ts := by
      have : ts.getD k (0, 0, 0) = ts[k] := by simp [hkl]
      rw [this]; exact List.getElem_mem hkl
     have HIN : Hid (ts.getD k (0, 0, 0) ∈ ts) := hmem
     have HNX : Hid (¬ inTri l (px, py) (ts.getD k (0, 0, 0)) → ∀ i, i < k + 1 → ¬ inTri l (px, py) (ts.getD i (0, 0, 0))) := fun h i hik => by
      by_cases e : i = k
      ·subst e; exact h
      ·exact HSG.out i (by omega)
     obtain ⟨h1, h2, h3, h4, h5, h6⟩ := HTR.out _ hmem
     have HT3 : Hid (inTri l (px, py) (ts.getD k (0, 0, 0)) ↔ within (px, py) (pOf l (ts.getD k (0, 0, 0)).1) (pOf l (ts.getD k (0, 0, 0)).2.1) (pOf l (ts.getD k (0, 0, 0)).2.2)) := Iff.rfl
     have HLOC : Hid (inTri l (px, py) (ts.getD k (0, 0, 0)) → LocP l ts J (px, py) 1 (ts.getD k (0, 0, 0)).1 (ts.getD k (0, 0, 0)).2.1 (ts.getD k (0, 0, 0)).2.2) := fun h => .inr (.inr (.inl ⟨HNO.out, HNJ.out, _, hmem, h, rfl, rfl, rfl, rfl⟩))
     obtain ⟨x, ex⟩ : ∃ x : Nat, (ts.getD k (0, 0, 0)).1 = (x : Int) := ⟨(ts.getD k (0, 0, 0)).1.toNat, by omega⟩
     obtain ⟨y, ey⟩ : ∃ y : Nat, (ts.getD k (0, 0, 0)).2.1 = (y : Int) := ⟨(ts.getD k (0, 0, 0)).2.1.toNat, by omega⟩
     obtain ⟨z, ez⟩ : ∃ z : Nat, (ts.getD k (0, 0, 0)).2.2 = (z : Int) := ⟨(ts.getD k (0, 0, 0)).2.2.toNat, by omega⟩
     rw [ex, ey, ez] at HT3 HLOC
     rw [ex] at t0 h1 h2
     rw [ey] at t1 h3 h4
     rw [ez] at t2 h5 h6
     have pe : ∀ k : Nat, pOf l (k : Int) = ptAt l k := fun k => by unfold pOf; rw [Int.toNat_natCast]
     rw [pe, pe, pe] at HT3
     clear ex ey ez pe hmem HSG
     have hx : x < l.length := by omega
     have hy : y < l.length := by omega
     have hz : z < l.length := by omega
     obtain ⟨d0, d1⟩ := (hp3.below hbr hb3) x hx
     obtain ⟨d2, d3⟩ := (hp3.below hbr hb3) y hy
     obtain ⟨d4, d5⟩ := (hp3.below hbr hb3) z hz
     have NA : Hid (Near (l.getD x (0, 0)).1 (l.getD x (0, 0)).2) := HN.out _ hx
     have NB : Hid (Near (l.getD y (0, 0)).1 (l.getD y (0, 0)).2) := HN.out _ hy
     have NC : Hid (Near (l.getD z (0, 0)).1 (l.getD z (0, 0)).2) := HN.out _ hz
     have eA : Hid (ptAt l x = ((l.getD x (0, 0)).1, (l.getD x (0, 0)).2)) := rfl
     have eB : Hid (ptAt l y = ((l.getD y (0, 0)).1, (l.getD y (0, 0)).2)) := rfl
     have eC : Hid (ptAt l z = ((l.getD z (0, 0)).1, (l.getD z (0, 0)).2)) := rfl
     have hgr : g < wr.heap.size := Nat.lt_of_lt_of_le hg hbr.size
     have hbr' : b < wr.heap.size := Nat.lt_of_lt_of_le hb3 hbr.size
     generalize (l.getD x (0, 0)).1 = ax at *
     generalize (l.getD x (0, 0)).2 = ay at *
     generalize (l.getD y (0, 0)).1 = bx at *
     generalize (l.getD y (0, 0)).2 = by2 at *
     generalize (l.getD z (0, 0)).1 = cx at *
     generalize (l.getD z (0, 0)).2 = cy at *
     have y0 : (0 : Int) ≤ (k : Int) := by omega
     have y1 : (k : Int) < (ts.length : Int) := by omega
     have y2 : (0 : Int) ≤ (x : Int) := by omega
     have y3 : (x : Int) < (l.length : Int) := by omega
     have y4 : (0 : Int) ≤ (y : Int) := by omega
     have y5 : (y : Int) < (l.length : Int) := by omega
     have y7 : (0 : Int) ≤ (z : Int) := by omega
     have y8 : (z : Int) < (l.length : Int) := by omega
     have y6 : IntKind.i64.wrap ((k : Int) + 1) = (k : Int) + 1 := wrap_id (by omega) (by omega)
     clear h1 h2 h3 h4 h5 h6
     go_wp2_with fail
     go_cut [13, 14, 15] (fun s13 s14 s15 wx => ∃ p q r, s13 = .pointer (some ⟨p, 0, none⟩) ∧ s14 = .pointer (some ⟨q, 0, none⟩) ∧ s15 = .pointer (some ⟨r, 0, none⟩) ∧ p < wx.heap.size ∧ q < wx.heap.size ∧ r < wx.heap.size ∧
       wx.cell? ⟨p, 0, none⟩ = some (.int .i64 ax) ∧ wx.cell? ⟨p, 1, none⟩ = some (.int .i64 ay) ∧ wx.cell? ⟨q, 0, none⟩ = some (.int .i64 bx) ∧ wx.cell? ⟨q, 1, none⟩ = some (.int .i64 by2) ∧ wx.cell? ⟨r, 0, none⟩ = some (.int .i64 cx) ∧ wx.cell? ⟨r, 1, none⟩ = some (.int .i64 cy) ∧ Below wr.heap.size wr wx)
     case first =>
      as_aux_lemma =>
      clear HN HTR HPN HNO HNJ HIN HNX HT3 HLOC NA NB NC eA eB eC hp hp3 q0 q1 HAN3 HTA HJE
      have HKD := kdTri_put (.slice (some ⟨b, off, none⟩) l.length cap) (.slice (some ⟨g, 0, none⟩) ts.length tc) b off g k x y z ax ay bx by2 cx cy
      refine wp_region_inv (m := 30) (by kernel_rfl) (by kernel_rfl) (dsts := [some 85, some 86, some 87, some 88, some 89, some 90, some 91, some 92, some 93, some 94, some 95, some 96, some 97, some 98, some 99, some 100, some 101, some 102, some 103, some 104, some 105, some 106, some 107, some 108, some 13, some 14, some 15, none, none, none]) rfl (by kernel_rfl) (l := []) rfl (Sow wr 37 (kdTri (.slice (some ⟨b, off, none⟩) l.length cap) (.slice (some ⟨g, 0, none⟩) ts.length tc) b off g k x y z ax ay bx by2 cx cy)) (Sow.start _ _ _ _) ?_ ?_
      ·refine flS (flS (flS (flS (flS (flS (flS (flS (flS (flS (flS (flS (flS (flS (flS (flS (flS (flS (flS (flS (flS (flS (flS (flS (flS (flS (flS (flS (flS (flS fl0 ?_) ?_) ?_) ?_) ?_) ?_) ?_) ?_) ?_) ?_) ?_) ?_) ?_) ?_) ?_) ?_) ?_) ?_) ?_) ?_) ?_) ?_) ?_) ?_) ?_) ?_) ?_) ?_) ?_) ?_
       all_goals intro L σ wx hS hp hdn hun
       ·exact (gives_move (x := .tmp 0) rfl rfl (hS.stepV (i := 0) rfl)).toS
       ·exact (gives_move (x := .tmp 1) rfl rfl (hS.stepV (i := 1) rfl)).toS
       ·exact (gives_move (x := .tmp 12) rfl rfl (hS.stepV (i := 2) rfl)).toS
       ·exact (gives_index (T := 42) (x := .tmp 86) (y := .tmp 87) rfl (show σ 1 = _ from hS.val 1 _ rfl (hp 1 rfl)) (show σ 2 = _ from hS.val 2 _ rfl (hp 2 rfl)) (run_index_tris _ _ _ _ _ hkl) (hS.stepV (i := 3) rfl)).toS
       ·exact (gives_index (T := 53) (x := .tmp 88) (y := .const (.int .i64 0)) rfl (show σ 3 = _ from hS.val 3 _ rfl (hp 3 rfl)) rfl (run_index_arr0 _ _ _) (hS.stepV (i := 4) rfl)).toS
       ·exact (gives_load (T := 3) (x := .tmp 89) rfl (show σ 4 = _ from hS.val 4 _ rfl (hp 4 rfl)) (run_load_int _ _ _ _ ((hS.bel.cell (p := ⟨g, k * 3, none⟩) hgr).trans t0)) (hS.stepV (i := 5) rfl)).toS
       ·exact (gives_index (T := 41) (x := .tmp 85) (y := .tmp 90) rfl (show σ 0 = _ from hS.val 0 _ rfl (hp 0 rfl)) (show σ 5 = _ from hS.val 5 _ rfl (hp 5 rfl)) (run_index_ptO _ _ _ _ _ _ hx) (hS.stepV (i := 6) rfl)).toS
       ·exact (gives_load (T := 37) (x := .tmp 91) rfl (show σ 6 = _ from hS.val 6 _ rfl (hp 6 rfl)) (run_load_pt _ _ _ ax ay ((hS.bel.cell (p := ⟨b, off + x * 2, none⟩) hbr').trans d0) ((hS.bel.cell (p := ⟨b, off + x * 2 + 1, none⟩) hbr').trans d1)) (hS.stepV (i := 7) rfl)).toS
       ·exact (gives_move (x := .tmp 0) rfl rfl (hS.stepV (i := 8) rfl)).toS
       ·exact (gives_move (x := .tmp 1) rfl rfl (hS.stepV (i := 9) rfl)).toS
       ·exact (gives_move (x := .tmp 12) rfl rfl (hS.stepV (i := 10) rfl)).toS
       ·exact (gives_index (T := 42) (x := .tmp 94) (y := .tmp 95) rfl (show σ 9 = _ from hS.val 9 _ rfl (hp 9 rfl)) (show σ 10 = _ from hS.val 10 _ rfl (hp 10 rfl)) (run_index_tris _ _ _ _ _ hkl) (hS.stepV (i := 11) rfl)).toS
       ·exact (gives_index (T := 53) (x := .tmp 96) (y := .const (.int .i64 1)) rfl (show σ 11 = _ from hS.val 11 _ rfl (hp 11 rfl)) rfl (run_index_arr1 _ _ _) (hS.stepV (i := 12) rfl)).toS
       ·exact (gives_load (T := 3) (x := .tmp 97) rfl (show σ 12 = _ from hS.val 12 _ rfl (hp 12 rfl)) (run_load_int _ _ _ _ ((hS.bel.cell (p := ⟨g, k * 3 + 1, none⟩) hgr).trans t1)) (hS.stepV (i := 13) rfl)).toS
       ·exact (gives_index (T := 41) (x := .tmp 93) (y := .tmp 98) rfl (show σ 8 = _ from hS.val 8 _ rfl (hp 8 rfl)) (show σ 13 = _ from hS.val 13 _ rfl (hp 13 rfl)) (run_index_ptO _ _ _ _ _ _ hy) (hS.stepV (i := 14) rfl)).toS
       ·exact (gives_load (T := 37) (x := .tmp 99) rfl (show σ 14 = _ from hS.val 14 _ rfl (hp 14 rfl)) (run_load_pt _ _ _ bx by2 ((hS.bel.cell (p := ⟨b, off + y * 2, none⟩) hbr').trans d2) ((hS.bel.cell (p := ⟨b, off + y * 2 + 1, none⟩) hbr').trans d3)) (hS.stepV (i := 15) rfl)).toS
       ·exact (gives_move (x := .tmp 0) rfl rfl (hS.stepV (i := 16) rfl)).toS
       ·exact (gives_move (x := .tmp 1) rfl rfl (hS.stepV (i := 17) rfl)).toS
       ·exact (gives_move (x := .tmp 12) rfl rfl (hS.stepV (i := 18) rfl)).toS
       ·exact (gives_index (T := 42) (x := .tmp 102) (y := .tmp 103) rfl (show σ 17 = _ from hS.val 17 _ rfl (hp 17 rfl)) (show σ 18 = _ from hS.val 18 _ rfl (hp 18 rfl)) (run_index_tris _ _ _ _ _ hkl) (hS.stepV (i := 19) rfl)).toS
       ·exact (gives_index (T := 53) (x := .tmp 104) (y := .const (.int .i64 2)) rfl (show σ 19 = _ from hS.val 19 _ rfl (hp 19 rfl)) rfl (run_index_arr2 _ _ _) (hS.stepV (i := 20) rfl)).toS
       ·exact (gives_load (T := 3) (x := .tmp 105) rfl (show σ 20 = _ from hS.val 20 _ rfl (hp 20 rfl)) (run_load_int _ _ _ _ ((hS.bel.cell (p := ⟨g, k * 3 + 2, none⟩) hgr).trans t2)) (hS.stepV (i := 21) rfl)).toS
       ·exact (gives_index (T := 41) (x := .tmp 101) (y := .tmp 106) rfl (show σ 16 = _ from hS.val 16 _ rfl (hp 16 rfl)) (show σ 21 = _ from hS.val 21 _ rfl (hp 21 rfl)) (run_index_ptO _ _ _ _ _ _ hz) (hS.stepV (i := 22) rfl)).toS
       ·exact (gives_load (T := 37) (x := .tmp 107) rfl (show σ 22 = _ from hS.val 22 _ rfl (hp 22 rfl)) (run_load_pt _ _ _ cx cy ((hS.bel.cell (p := ⟨b, off + z * 2, none⟩) hbr').trans d4) ((hS.bel.cell (p := ⟨b, off + z * 2 + 1, none⟩) hbr').trans d5)) (hS.stepV (i := 23) rfl)).toS
       ·refine (gives_alloc (T := 37) rfl (run_alloc_pt _) (hS.stepF (i := 24) rfl (fun q u v hq => ?_) _ _)).toS
        have hq2 : q = 27 := by have := HKD q 24 u v hq; omega
        subst hq2
        cases hlq : L 27 with
        | false => rfl
        | true => have := hdn 27 24 hlq rfl; rw [hun] at this; cases this
       ·refine (gives_alloc (T := 37) rfl (run_alloc_pt _) (hS.stepF (i := 25) rfl (fun q u v hq => ?_) _ _)).toS
        have hq2 : q = 28 := by have := HKD q 25 u v hq; omega
        subst hq2
        cases hlq : L 28 with
        | false => rfl
        | true => have := hdn 28 25 hlq rfl; rw [hun] at this; cases this
       ·refine (gives_alloc (T := 37) rfl (run_alloc_pt _) (hS.stepF (i := 26) rfl (fun q u v hq => ?_) _ _)).toS
        have hq2 : q = 29 := by have := HKD q 26 u v hq; omega
        subst hq2
        cases hlq : L 29 with
        | false => rfl
        | true => have := hdn 29 26 hlq rfl; rw [hun] at this; cases this
       ·obtain ⟨bb, c0, c1, e1, e2, e3, e4⟩ := hS.fre 24 rfl (hp 24 rfl)
        exact gives_store (T := 37) (x := .tmp 13) (y := .tmp 92) rfl (show σ 24 = _ from e1) (show σ 7 = _ from hS.val 7 _ rfl (hp 7 rfl)) (run_store_pt _ _ c0 c1 _ _ e3) (hS.stepP (i := 27) rfl rfl (hp 24 rfl) e1 (fun q u v hq => by have := HKD q 24 u v hq; omega))
       ·obtain ⟨bb, c0, c1, e1, e2, e3, e4⟩ := hS.fre 25 rfl (hp 25 rfl)
        exact gives_store (T := 37) (x := .tmp 14) (y := .tmp 100) rfl (show σ 25 = _ from e1) (show σ 15 = _ from hS.val 15 _ rfl (hp 15 rfl)) (run_store_pt _ _ c0 c1 _ _ e3) (hS.stepP (i := 28) rfl rfl (hp 25 rfl) e1 (fun q u v hq => by have := HKD q 25 u v hq; omega))
       ·obtain ⟨bb, c0, c1, e1, e2, e3, e4⟩ := hS.fre 26 rfl (hp 26 rfl)
        exact gives_store (T := 37) (x := .tmp 15) (y := .tmp 108) rfl (show σ 26 = _ from e1) (show σ 23 = _ from hS.val 23 _ rfl (hp 23 rfl)) (run_store_pt _ _ c0 c1 _ _ e3) (hS.stepP (i := 29) rfl rfl (hp 26 rfl) e1 (fun q u v hq => by have := HKD q 26 u v hq; omega))
      ·intro L σ wx hS hall
       obtain ⟨b24, c24a, c24b, e24, g24, hh24, hu24⟩ := hS.fre 24 rfl (hall 24 (by omega))
       obtain ⟨rfl, rfl⟩ := hu24 27 (.int .i64 ax) (.int .i64 ay) rfl (hall 27 (by omega))
       obtain ⟨b25, c25a, c25b, e25, g25, hh25, hu25⟩ := hS.fre 25 rfl (hall 25 (by omega))
       obtain ⟨rfl, rfl⟩ := hu25 28 (.int .i64 bx) (.int .i64 by2) rfl (hall 28 (by omega))
       obtain ⟨b26, c26a, c26b, e26, g26, hh26, hu26⟩ := hS.fre 26 rfl (hall 26 (by omega))
       obtain ⟨rfl, rfl⟩ := hu26 29 (.int .i64 cx) (.int .i64 cy) rfl (hall 29 (by omega))
       refine ⟨?_⟩
       simp only [lay, Act.put, List.drop_succ_cons, List.drop_zero, List.setIfInBounds_toArray, List.set_cons_succ, List.set_cons_zero, e24, e25, e26]
       go_wp2_with fail
       go_meet
       exact ⟨b24, b25, b26, rfl, rfl, rfl, lt_some hh24, lt_some hh25, lt_some hh26, cell_of_heap hh24 0, cell_of_heap hh24 1, cell_of_heap hh25 0, cell_of_heap hh25 1, cell_of_heap hh26 0, cell_of_heap hh26 1, hS.bel⟩
     case rest =>
      as_aux_lemma =>
      obtain ⟨p, q, r, rfl, rfl, rfl, hpz, hqz, hrz, p0, p1, u0, u1, v0, v1, hbc⟩ := hcut
      have hbY := hbr.trans (hbc.mono hbr.size)
      replace t0 := (hbc.cell (p := ⟨g, k * 3, none⟩) hgr).trans t0
      replace t1 := (hbc.cell (p := ⟨g, k * 3 + 1, none⟩) hgr).trans t1
      replace t2 := (hbc.cell (p := ⟨g, k * 3 + 2, none⟩) hgr).trans t2
      replace q0 := (hbY.cell (p := ⟨w.heap.size, 0, none⟩) (by show w.heap.size < V3.heap.size; omega)).trans q0
      replace q1 := (hbY.cell (p := ⟨w.heap.size, 1, none⟩) (by show w.heap.size < V3.heap.size; omega)).trans q1
      have hgY : g < wc.heap.size := Nat.lt_of_lt_of_le hgr hbc.size
      have hwz : w.heap.size < wc.heap.size := by have := hbY.size; omega
      clear d0 d1 d2 d3 d4 d5 hbr hbc hgr hbr' y2 y3 y4 y5 y7 y8
      generalize wc = Y at *
      have nA := NA.out
      have nB := NB.out
      have nC := NC.out
      have nP := HPN.out
      have HS1 : Hid (sideN ax ay bx by2 px py = sd (ptAt l x) (ptAt l y) (px, py)) := by unfold Hid; rw [eA.out, eB.out]; rfl
      have HS2 : Hid (sideN bx by2 cx cy px py = sd (ptAt l y) (ptAt l z) (px, py)) := by unfold Hid; rw [eB.out, eC.out]; rfl
      have HS3 : Hid (sideN cx cy ax ay px py = sd (ptAt l z) (ptAt l x) (px, py)) := by unfold Hid; rw [eC.out, eA.out]; rfl
      clear NA NB NC eA eB eC
      have H1 : Hid (sg (sideN ax ay bx by2 px py) = sg (sideN ax ay bx by2 px py)) := rfl
      have H2 : Hid (sg (sideN bx by2 cx cy px py) = sg (sideN bx by2 cx cy px py)) := rfl
      have H3 : Hid (sg (sideN cx cy ax ay px py) = sg (sideN cx cy ax ay px py)) := rfl
      obtain ⟨r1, hr1⟩ : ∃ r1, sg (sideN ax ay bx by2 px py) = r1 := ⟨_, rfl⟩
      obtain ⟨r2, hr2⟩ : ∃ r2, sg (sideN bx by2 cx cy px py) = r2 := ⟨_, rfl⟩
      obtain ⟨r3, hr3⟩ : ∃ r3, sg (sideN cx cy ax ay px py) = r3 := ⟨_, rfl⟩
      have k1 := sg_pos_iff (sideN ax ay bx by2 px py)
      have k2 := sg_pos_iff (sideN bx by2 cx cy px py)
      have k3 := sg_pos_iff (sideN cx cy ax ay px py)
      rw [hr1] at k1
      rw [hr2] at k2
      rw [hr3] at k3
      clear H1 H2 H3
      have H1 : Hid (sg (sideN ax ay bx by2 px py) = r1) := hr1
      have H2 : Hid (sg (sideN bx by2 cx cy px py) = r2) := hr2
      have H3 : Hid (sg (sideN cx cy ax ay px py) = r3) := hr3
      have K1 : Hid (0 < r1 ↔ 0 < sideN ax ay bx by2 px py) := k1
      have K2 : Hid (0 < r2 ↔ 0 < sideN bx by2 cx cy px py) := k2
      have K3 : Hid (0 < r3 ↔ 0 < sideN cx cy ax ay px py) := k3
      clear hr1 hr2 hr3 k1 k2 k3
      by_cases j1 : 0 < r1
      ·have e1 : decide (0 < r1) = true := decide_eq_true j1
       by_cases j2 : 0 < r2
       ·have e2 : decide (0 < r2) = true := decide_eq_true j2
        by_cases j3 : 0 < r3
        ·have e3 : decide (0 < r3) = true := decide_eq_true j3
         have HR : Hid (LocP l ts J (px, py) 1 x y z) := HLOC.out (HT3.out.2 ⟨by rw [← HS1.out]; exact K1.out.1 j1, by rw [← HS2.out]; exact K2.out.1 j2, by rw [← HS3.out]; exact K3.out.1 j3⟩)
         clear HNX HT3 HLOC HIN HS1 HS2 HS3 K1 K2 K3 j1 j2 j3
         go_upto_region 18 with (first
         | (go_at_call 87; refine (rside_any _ _ _ _ _ _ _ (by assumption) (by assumption) (by assumption)).mono ?_; rintro e w5 ⟨rfl, hb5⟩; rw [H1.out]
            replace p0 := (hb5.cell (p := ⟨p, 0, none⟩) hpz).trans p0
            replace p1 := (hb5.cell (p := ⟨p, 1, none⟩) hpz).trans p1
            replace u0 := (hb5.cell (p := ⟨q, 0, none⟩) hqz).trans u0
            replace u1 := (hb5.cell (p := ⟨q, 1, none⟩) hqz).trans u1
            replace v0 := (hb5.cell (p := ⟨r, 0, none⟩) hrz).trans v0
            replace v1 := (hb5.cell (p := ⟨r, 1, none⟩) hrz).trans v1
            replace q0 := (hb5.cell (p := ⟨w.heap.size, 0, none⟩) hwz).trans q0
            replace q1 := (hb5.cell (p := ⟨w.heap.size, 1, none⟩) hwz).trans q1
            replace hpz := Nat.lt_of_lt_of_le hpz hb5.size
            replace hqz := Nat.lt_of_lt_of_le hqz hb5.size
            replace hrz := Nat.lt_of_lt_of_le hrz hb5.size
            replace hwz := Nat.lt_of_lt_of_le hwz hb5.size)
         | (go_at_call 87; refine (rside_any _ _ _ _ _ _ _ (by assumption) (by assumption) (by assumption)).mono ?_; rintro e w6 ⟨rfl, hb6⟩; rw [H2.out]
            replace p0 := (hb6.cell (p := ⟨p, 0, none⟩) hpz).trans p0
            replace p1 := (hb6.cell (p := ⟨p, 1, none⟩) hpz).trans p1
            replace u0 := (hb6.cell (p := ⟨q, 0, none⟩) hqz).trans u0
            replace u1 := (hb6.cell (p := ⟨q, 1, none⟩) hqz).trans u1
            replace v0 := (hb6.cell (p := ⟨r, 0, none⟩) hrz).trans v0
            replace v1 := (hb6.cell (p := ⟨r, 1, none⟩) hrz).trans v1
            replace q0 := (hb6.cell (p := ⟨w.heap.size, 0, none⟩) hwz).trans q0
            replace q1 := (hb6.cell (p := ⟨w.heap.size, 1, none⟩) hwz).trans q1
            replace hpz := Nat.lt_of_lt_of_le hpz hb6.size
            replace hqz := Nat.lt_of_lt_of_le hqz hb6.size
            replace hrz := Nat.lt_of_lt_of_le hrz hb6.size
            replace hwz := Nat.lt_of_lt_of_le hwz hb6.size)
         | (go_at_call 87; refine (rside_any _ _ _ _ _ _ _ (by assumption) (by assumption) (by assumption)).mono ?_; rintro e w7 ⟨rfl, hb7⟩; rw [H3.out]
            replace p0 := (hb7.cell (p := ⟨p, 0, none⟩) hpz).trans p0
            replace p1 := (hb7.cell (p := ⟨p, 1, none⟩) hpz).trans p1
            replace u0 := (hb7.cell (p := ⟨q, 0, none⟩) hqz).trans u0
            replace u1 := (hb7.cell (p := ⟨q, 1, none⟩) hqz).trans u1
            replace v0 := (hb7.cell (p := ⟨r, 0, none⟩) hrz).trans v0
            replace v1 := (hb7.cell (p := ⟨r, 1, none⟩) hrz).trans v1
            replace q0 := (hb7.cell (p := ⟨w.heap.size, 0, none⟩) hwz).trans q0
            replace q1 := (hb7.cell (p := ⟨w.heap.size, 1, none⟩) hwz).trans q1
            replace hpz := Nat.lt_of_lt_of_le hpz hb7.size
            replace hqz := Nat.lt_of_lt_of_le hqz hb7.size
            replace hrz := Nat.lt_of_lt_of_le hrz hb7.size
            replace hwz := Nat.lt_of_lt_of_le hwz hb7.size))
         have hbZ0 := (hbY.trans (hb5.mono hbY.size)).trans (hb6.mono (hbY.trans (hb5.mono hbY.size)).size)
         have hbZ := hbZ0.trans (hb7.mono hbZ0.size)
         have hbYZ0 := hb5.trans (hb6.mono hb5.size)
         have hbYZ := hbYZ0.trans (hb7.mono hbYZ0.size)
         replace t0 := (hbYZ.cell (p := ⟨g, k * 3, none⟩) hgY).trans t0
         replace t1 := (hbYZ.cell (p := ⟨g, k * 3 + 1, none⟩) hgY).trans t1
         replace t2 := (hbYZ.cell (p := ⟨g, k * 3 + 2, none⟩) hgY).trans t2
         have hgZ : g < w7.heap.size := Nat.lt_of_lt_of_le hgY hbYZ.size
         have HANZ : Hid (w7.heap[w.heap.size + 1]? = some (.cells #[.int .i64 0, .int .i64 0, .int .i64 0, .int .i64 0] 155 (0, 0))) := (hbZ.block _ (by omega)).trans HAN3.out
         have HBZ : Hid (Below w.heap.size w w7) := hw3.trans (hbZ.mono hw3.size)
         have hsZ : w.heap.size + 2 ≤ w7.heap.size := by have := hbZ.size; omega
         clear p0 p1 u0 u1 v0 v1 q0 q1 hb5 hb6 hb7 hbYZ0 hbYZ hbZ0 hbZ hbY HAN3 hgY nA nB nC nP H1 H2 H3 e1 e2 e3 hpz hqz hrz hwz
         generalize w7 = Z at *
         obtain ⟨a0, a1, a2, a3, af⟩ := ans_cells HANZ.out
         have f0 := af 0
         have f1 := af 1
         have f2 := af 2
         have f3 := af 3
         obtain ⟨X, hX, z0, z1, z2, z3, hbX⟩ := ans_put HANZ.out (.int .i64 1) (.int .i64 (x : Int)) (.int .i64 (y : Int)) (.int .i64 (z : Int))
         have HX : Hid ((((Z.setCell ⟨w.heap.size + 1, 0, none⟩ (.int .i64 1)).setCell ⟨w.heap.size + 1, 1, none⟩ (.int .i64 (x : Int))).setCell ⟨w.heap.size + 1, 2, none⟩ (.int .i64 (y : Int))).setCell ⟨w.heap.size + 1, 3, none⟩ (.int .i64 (z : Int)) = X) := hX
         have HBX : Hid (Below w.heap.size w X) := HBZ.out.trans (hbX w.heap.size (by omega))
         clear af hX hbX HBZ HANZ
         go_region
         all_goals go_wp2_with fail
         rw [HX.out]
         refine bodyPost_ret (v := .agg #[.int .i64 1, .int .i64 (x : Int), .int .i64 (y : Int), .int .i64 (z : Int)]) (by simp [results, Tryz.results103, go_sem, z0, z1, z2, z3]) rfl ⟨1, x, y, z, rfl, by rw [HJE.out]; exact HR.out, HBX.out.drew⟩
        ·have e3 : decide (0 < r3) = false := decide_eq_false j3
         replace j3 : ¬ 0 < sideN cx cy ax ay px py := fun h => j3 (K3.out.2 h)
         have HN2 : Hid (∀ i, i < k + 1 → ¬ inTri l (px, py) (ts.getD i (0, 0, 0))) := HNX.out fun h => j3 (by have := (HT3.out.1 h).2.2; rw [HS3.out]; exact this)
         clear HNX HT3 HLOC HIN HS1 HS2 HS3
         go_wp2_with (first
         | (go_at_call 87; refine (rside_any _ _ _ _ _ _ _ (by assumption) (by assumption) (by assumption)).mono ?_; rintro e w5 ⟨rfl, hb5⟩; rw [H1.out]
            replace p0 := (hb5.cell (p := ⟨p, 0, none⟩) hpz).trans p0
            replace p1 := (hb5.cell (p := ⟨p, 1, none⟩) hpz).trans p1
            replace u0 := (hb5.cell (p := ⟨q, 0, none⟩) hqz).trans u0
            replace u1 := (hb5.cell (p := ⟨q, 1, none⟩) hqz).trans u1
            replace v0 := (hb5.cell (p := ⟨r, 0, none⟩) hrz).trans v0
            replace v1 := (hb5.cell (p := ⟨r, 1, none⟩) hrz).trans v1
            replace q0 := (hb5.cell (p := ⟨w.heap.size, 0, none⟩) hwz).trans q0
            replace q1 := (hb5.cell (p := ⟨w.heap.size, 1, none⟩) hwz).trans q1
            replace hpz := Nat.lt_of_lt_of_le hpz hb5.size
            replace hqz := Nat.lt_of_lt_of_le hqz hb5.size
            replace hrz := Nat.lt_of_lt_of_le hrz hb5.size
            replace hwz := Nat.lt_of_lt_of_le hwz hb5.size)
         | (go_at_call 87; refine (rside_any _ _ _ _ _ _ _ (by assumption) (by assumption) (by assumption)).mono ?_; rintro e w6 ⟨rfl, hb6⟩; rw [H2.out]
            replace p0 := (hb6.cell (p := ⟨p, 0, none⟩) hpz).trans p0
            replace p1 := (hb6.cell (p := ⟨p, 1, none⟩) hpz).trans p1
            replace u0 := (hb6.cell (p := ⟨q, 0, none⟩) hqz).trans u0
            replace u1 := (hb6.cell (p := ⟨q, 1, none⟩) hqz).trans u1
            replace v0 := (hb6.cell (p := ⟨r, 0, none⟩) hrz).trans v0
            replace v1 := (hb6.cell (p := ⟨r, 1, none⟩) hrz).trans v1
            replace q0 := (hb6.cell (p := ⟨w.heap.size, 0, none⟩) hwz).trans q0
            replace q1 := (hb6.cell (p := ⟨w.heap.size, 1, none⟩) hwz).trans q1
            replace hpz := Nat.lt_of_lt_of_le hpz hb6.size
            replace hqz := Nat.lt_of_lt_of_le hqz hb6.size
            replace hrz := Nat.lt_of_lt_of_le hrz hb6.size
            replace hwz := Nat.lt_of_lt_of_le hwz hb6.size)
         | (go_at_call 87; refine (rside_any _ _ _ _ _ _ _ (by assumption) (by assumption) (by assumption)).mono ?_; rintro e w7 ⟨rfl, hb7⟩; rw [H3.out]
            replace p0 := (hb7.cell (p := ⟨p, 0, none⟩) hpz).trans p0
            replace p1 := (hb7.cell (p := ⟨p, 1, none⟩) hpz).trans p1
            replace u0 := (hb7.cell (p := ⟨q, 0, none⟩) hqz).trans u0
            replace u1 := (hb7.cell (p := ⟨q, 1, none⟩) hqz).trans u1
            replace v0 := (hb7.cell (p := ⟨r, 0, none⟩) hrz).trans v0
            replace v1 := (hb7.cell (p := ⟨r, 1, none⟩) hrz).trans v1
            replace q0 := (hb7.cell (p := ⟨w.heap.size, 0, none⟩) hwz).trans q0
            replace q1 := (hb7.cell (p := ⟨w.heap.size, 1, none⟩) hwz).trans q1
            replace hpz := Nat.lt_of_lt_of_le hpz hb7.size
            replace hqz := Nat.lt_of_lt_of_le hqz hb7.size
            replace hrz := Nat.lt_of_lt_of_le hrz hb7.size
            replace hwz := Nat.lt_of_lt_of_le hwz hb7.size))
         have hbZ0 := (hbY.trans (hb5.mono hbY.size)).trans (hb6.mono (hbY.trans (hb5.mono hbY.size)).size)
         have hbZ := hbZ0.trans (hb7.mono hbZ0.size)
         clear p0 p1 u0 u1 v0 v1 q0 q1 hb5 hb6 hb7
         go_roundw
         case rel => exact ⟨k + 1, by omega, by go_num, HN2.out, hbZ⟩
         case measure => simp [intOf]; omega
       ·have e2 : decide (0 < r2) = false := decide_eq_false j2
        replace j2 : ¬ 0 < sideN bx by2 cx cy px py := fun h => j2 (K2.out.2 h)
        have HN2 : Hid (∀ i, i < k + 1 → ¬ inTri l (px, py) (ts.getD i (0, 0, 0))) := HNX.out fun h => j2 (by have := (HT3.out.1 h).2.1; rw [HS2.out]; exact this)
        clear HNX HT3 HLOC HIN HS1 HS2 HS3
        go_wp2_with (first
          | (go_at_call 87; refine (rside_any _ _ _ _ _ _ _ (by assumption) (by assumption) (by assumption)).mono ?_; rintro e w5 ⟨rfl, hb5⟩; rw [H1.out]
             replace p0 := (hb5.cell (p := ⟨p, 0, none⟩) hpz).trans p0
             replace p1 := (hb5.cell (p := ⟨p, 1, none⟩) hpz).trans p1
             replace u0 := (hb5.cell (p := ⟨q, 0, none⟩) hqz).trans u0
             replace u1 := (hb5.cell (p := ⟨q, 1, none⟩) hqz).trans u1
             replace v0 := (hb5.cell (p := ⟨r, 0, none⟩) hrz).trans v0
             replace v1 := (hb5.cell (p := ⟨r, 1, none⟩) hrz).trans v1
             replace q0 := (hb5.cell (p := ⟨w.heap.size, 0, none⟩) hwz).trans q0
             replace q1 := (hb5.cell (p := ⟨w.heap.size, 1, none⟩) hwz).trans q1
             replace hpz := Nat.lt_of_lt_of_le hpz hb5.size
             replace hqz := Nat.lt_of_lt_of_le hqz hb5.size
             replace hrz := Nat.lt_of_lt_of_le hrz hb5.size
             replace hwz := Nat.lt_of_lt_of_le hwz hb5.size)
          | (go_at_call 87; refine (rside_any _ _ _ _ _ _ _ (by assumption) (by assumption) (by assumption)).mono ?_; rintro e w6 ⟨rfl, hb6⟩; rw [H2.out]
             replace p0 := (hb6.cell (p := ⟨p, 0, none⟩) hpz).trans p0
             replace p1 := (hb6.cell (p := ⟨p, 1, none⟩) hpz).trans p1
             replace u0 := (hb6.cell (p := ⟨q, 0, none⟩) hqz).trans u0
             replace u1 := (hb6.cell (p := ⟨q, 1, none⟩) hqz).trans u1
             replace v0 := (hb6.cell (p := ⟨r, 0, none⟩) hrz).trans v0
             replace v1 := (hb6.cell (p := ⟨r, 1, none⟩) hrz).trans v1
             replace q0 := (hb6.cell (p := ⟨w.heap.size, 0, none⟩) hwz).trans q0
             replace q1 := (hb6.cell (p := ⟨w.heap.size, 1, none⟩) hwz).trans q1
             replace hpz := Nat.lt_of_lt_of_le hpz hb6.size
             replace hqz := Nat.lt_of_lt_of_le hqz hb6.size
             replace hrz := Nat.lt_of_lt_of_le hrz hb6.size
             replace hwz := Nat.lt_of_lt_of_le hwz hb6.size))
        have hbZ := (hbY.trans (hb5.mono hbY.size)).trans (hb6.mono (hbY.trans (hb5.mono hbY.size)).size)
        clear p0 p1 u0 u1 v0 v1 q0 q1 hb5 hb6
        go_roundw
        case rel => exact ⟨k + 1, by omega, by go_num, HN2.out, hbZ⟩
        case measure => simp [intOf]; omega
      ·have e1 : decide (0 < r1) = false := decide_eq_false j1
       replace j1 : ¬ 0 < sideN ax ay bx by2 px py := fun h => j1 (K1.out.2 h)
       have HN2 : Hid (∀ i, i < k + 1 → ¬ inTri l (px, py) (ts.getD i (0, 0, 0))) := HNX.out fun h => j1 (by have := (HT3.out.1 h).1; rw [HS1.out]; exact this)
       clear HNX HT3 HLOC HIN HS1 HS2 HS3
       go_wp2_with (first
           | (go_at_call 87; refine (rside_any _ _ _ _ _ _ _ (by assumption) (by assumption) (by assumption)).mono ?_; rintro e w5 ⟨rfl, hb5⟩; rw [H1.out]
              replace p0 := (hb5.cell (p := ⟨p, 0, none⟩) hpz).trans p0
              replace p1 := (hb5.cell (p := ⟨p, 1, none⟩) hpz).trans p1
              replace u0 := (hb5.cell (p := ⟨q, 0, none⟩) hqz).trans u0
              replace u1 := (hb5.cell (p := ⟨q, 1, none⟩) hqz).trans u1
              replace v0 := (hb5.cell (p := ⟨r, 0, none⟩) hrz).trans v0
              replace v1 := (hb5.cell (p := ⟨r, 1, none⟩) hrz).trans v1
              replace q0 := (hb5.cell (p := ⟨w.heap.size, 0, none⟩) hwz).trans q0
              replace q1 := (hb5.cell (p := ⟨w.heap.size, 1, none⟩) hwz).trans q1
              replace hpz := Nat.lt_of_lt_of_le hpz hb5.size
              replace hqz := Nat.lt_of_lt_of_le hqz hb5.size
              replace hrz := Nat.lt_of_lt_of_le hrz hb5.size
              replace hwz := Nat.lt_of_lt_of_le hwz hb5.size))
       have hbZ := hbY.trans (hb5.mono hbY.size)
       clear p0 p1 u0 u1 v0 v1 q0 q1 hb5
       go_roundw
       case rel => exact ⟨k + 1, by omega, by go_num, HN2.out, hbZ⟩
       case measure => simp [intOf]; omega
    ·have HR : Hid (LocP l ts J (px, py) 0 (-1) (-1) (-1)) := .inr (.inr (.inr ⟨HNO.out, HNJ.out, fun t ht => by
        obtain ⟨i, hi, e⟩ := List.getElem_of_mem ht
        have := HSG.out i (by omega)
        have eg : ts.getD i (0, 0, 0) = t := by simp [hi, e]
        rwa [eg] at this, rfl, rfl, rfl, rfl⟩))
     have HANZ : Hid (wr.heap[w.heap.size + 1]? = some (.cells #[.int .i64 0, .int .i64 0, .int .i64 0, .int .i64 0] 155 (0, 0))) := (hbr.block _ (by omega)).trans HAN3.out
     have HBZ : Hid (Below w.heap.size w wr) := hw3.trans (hbr.mono hw3.size)
     clear HSG hbr
     obtain ⟨a0, a1, a2, a3, af⟩ := ans_cells HANZ.out
     have f0 := af 0
     have f1 := af 1
     have f2 := af 2
     have f3 := af 3
     obtain ⟨X, hX, z0, z1, z2, z3, hbX⟩ := ans_put HANZ.out (.int .i64 0) (.int .i64 (-1)) (.int .i64 (-1)) (.int .i64 (-1))
     have HBX : Hid (Below w.heap.size w X) := HBZ.out.trans (hbX w.heap.size (by omega))
     clear af hbX HBZ HANZ
     go_wp2
     refine bodyPost_ret (v := .agg #[.int .i64 0, .int .i64 (-1), .int .i64 (-1), .int .i64 (-1)]) (by simp [results, Tryz.results103, go_sem, z0, z1, z2, z3]) rfl ⟨0, -1, -1, -1, rfl, by rw [HJE.out]; exact HR.out, HBX.out⟩
end Go.Proofs.YtgpapegpdfonpaaGreatDoor

namespace Go.Proofs.YtgpapegpdfonpaaGreatDoor
open Go.RowKit
attribute [local go_sem ↓] Go.wp_at_zero Go.wp_at_succ
def TriAt (w : World) (a : Option Addr) (ts : List T3) : Prop := ts = [] ∨ ∃ g, a = some ⟨g, 0, none⟩ ∧ g < w.heap.size ∧ TrisAt w g ts
theorem TriAt.below {w w' : World} {a : Option Addr} {ts : List T3} (h : TriAt w a ts) (hb : Below w.heap.size w w') : TriAt w' a ts := by
 rcases h with h | ⟨g, e, hg, h⟩
 ·exact .inl h
 ·exact .inr ⟨g, e, Nat.lt_of_lt_of_le hg hb.size, h.below hb hg⟩
theorem TriAt.of_own {w : World} {base c : Nat} {a : Option Addr} {ts : List T3} (ho : w.ownsRow base 53 3 (.slice a ts.length c) ts.length (flatT ts)) : TriAt w a ts := by
 by_cases h0 : ts = []
 ·exact .inl h0
 ·obtain ⟨g, rfl, hg, hc⟩ := ownS_place ho (List.length_pos_iff.2 h0)
  refine .inr ⟨g, rfl, hg, fun j hj => ?_⟩
  have f0 := flatT_get ts j 0 (by omega) hj
  have f1 := flatT_get ts j 1 (by omega) hj
  have f2 := flatT_get ts j 2 (by omega) hj
  have eg : ts.getD j (0, 0, 0) = ts[j] := by simp [hj]
  rw [eg]
  exact ⟨by rw [hc _ (by omega)]; exact f0, by rw [hc _ (by omega)]; exact f1, by rw [hc _ (by omega)]; exact f2⟩
theorem TriAt.at {w : World} {a : Option Addr} {ts : List T3} (h : TriAt w a ts) {k : Nat} (hk : k < ts.length) : ∃ g, a = some ⟨g, 0, none⟩ ∧ g < w.heap.size ∧ ∀ j, j < 3 → w.cell? ⟨g, k * 3 + j, none⟩ = some (iv (nth3 (ts.getD k (0, 0, 0)) j)) := by
 rcases h with h | ⟨g, e, hg, h⟩
 ·rw [h] at hk; simp at hk
 ·exact ⟨g, e, hg, fun j hj => h.nth hk hj⟩
set_option maxHeartbeats 2000000 in
theorem sameTris_any (a b : Option Addr) (ac bc : Nat) (ts : List T3) (w : World) (ha : TriAt w a ts) (hb : TriAt w b ts) (hl : ts.length ≤ 4000) :
  Calls Tryz.prog 56 #[.slice a ts.length ac, .slice b ts.length bc] w fun e w' => e = .returned (.bool true) ∧ Below w.heap.size w w' := by
 have heq := eqTriB
 have HA : Hid (TriAt w a ts) := ha
 have HB : Hid (TriAt w b ts) := hb
 clear ha hb
 go_enter Tryz.func56, Tryz.ntmps56
 go_wp2
 go_loopw [5] (fun i wr => ∃ k : Nat, k ≤ ts.length ∧ i = .int .i64 k ∧ Below w.heap.size w wr) (fun i _ => ts.length - (intOf i).toNat)
 case atStart => exact ⟨0, by omega, rfl, Below.refl _ _⟩
 case round =>
  obtain ⟨k, hk, rfl, hbr⟩ := hrel
  by_cases hlt : k < ts.length
  ·obtain ⟨g, rfl, hg, hc⟩ := (HA.out.below hbr).at hlt
   obtain ⟨g', rfl, hg', hc'⟩ := (HB.out.below hbr).at hlt
   have c0 := hc 0 (by omega)
   have c1 := hc 1 (by omega)
   have c2 := hc 2 (by omega)
   have d0 := hc' 0 (by omega)
   have d1 := hc' 1 (by omega)
   have d2 := hc' 2 (by omega)
   simp only [Nat.add_zero] at c0 d0
   generalize nth3 (ts.getD k (0, 0, 0)) 0 = x at *
   generalize nth3 (ts.getD k (0, 0, 0)) 1 = y at *
   generalize nth3 (ts.getD k (0, 0, 0)) 2 = z at *
   have y0 : (0 : Int) ≤ (k : Int) := by omega
   have y1 : (k : Int) < (ts.length : Int) := by omega
   have y2 : IntKind.i64.wrap ((k : Int) + 1) = (k : Int) + 1 := wrap_id (by omega) (by omega)
   have e1 : (x == x && y == y && z == z) = true := by simp
   clear hc hc'
   go_wp2_with fail
   go_quiet (fail)
   go_wp2
   go_roundw
   case rel => exact ⟨k + 1, by omega, by go_num, below_drewN hbr⟩
   case measure => simp [intOf]; omega
  ·go_wp2
   go_ret
   exact ⟨rfl, hbr⟩
theorem cell_new3v (w : World) (u v x : Value) (t : TypeId) : ∀ j y, [u, v, x][j]? = some y → (w.alloc (.cells #[u, v, x] t)).cell? ((⟨w.heap.size, 0, none⟩ : Addr).add j) = some y := by
 intro j y hj
 have hadd : (⟨w.heap.size, 0, none⟩ : Addr).add j = ⟨w.heap.size, j, none⟩ := by unfold Addr.add; split <;> simp_all
 rw [hadd]
 have e := heap_alloc_new w (.cells #[u, v, x] t)
 simp only [World.cell?, e]
 simpa using hj
def plT (ns : List Int) (t : T3) : T3 := (placeN ns t.1, placeN ns t.2.1, placeN ns t.2.2)
theorem nth3_plT (ns : List Int) (t : T3) {j : Nat} (hj : j < 3) : nth3 (plT ns t) j = placeN ns (nth3 t j) := by
 have : j = 0 ∨ j = 1 ∨ j = 2 := by omega
 rcases this with rfl | rfl | rfl <;> rfl
theorem placeN_mem {n : Int} {l : List Int} (h : n ∈ l) : 0 ≤ placeN l n ∧ placeN l n < l.length := by
 induction l with
 | nil => cases h
 | cons m r ih =>
  rw [placeN]
  by_cases e : m = n
  ·rw [if_pos e]; simp
  ·rw [if_neg e]
   have := ih ((List.mem_cons.1 h).resolve_left fun e' => e e'.symm)
   rw [if_neg (by omega)]
   simp only [List.length_cons]
   omega
def fillT (t : T3) (j : Nat) : Array Value := #[iv (if 0 < j then t.1 else 0), iv (if 1 < j then t.2.1 else 0), iv (if 2 < j then t.2.2 else 0)]
theorem fillT_set (t : T3) {j : Nat} (hj : j < 3) : (fillT t j).setIfInBounds j (iv (nth3 t j)) = fillT t (j + 1) := by
 have : j = 0 ∨ j = 1 ∨ j = 2 := by omega
 rcases this with rfl | rfl | rfl <;> rfl
theorem flatT_snoc (ts : List T3) (t : T3) : flatT (ts ++ [t]) = flatT ts ++ [iv t.1, iv t.2.1, iv t.2.2] := by rw [flatT_append]; rfl
set_option maxRecDepth 100000 in
set_option maxHeartbeats 4000000 in
theorem places_any (K : Nat) (na : Option Addr) (nc : Nat) (ns : List Int) (ta : Option Addr) (tc : Nat) (ts : List T3) (w : World) (hl : ns.length ≤ 1000) (hK : w.cell? ⟨K, 2, none⟩ = some (.slice na ns.length nc)) (hn : NumsAt w na ns)
  (ht : TriAt w ta ts) (htl : ts.length ≤ 4000) (hm : ∀ t ∈ ts, t.1 ∈ ns ∧ t.2.1 ∈ ns ∧ t.2.2 ∈ ns) :
  Calls Tryz.prog 101 #[.pointer (some ⟨K, 0, none⟩), .slice ta ts.length tc] w fun e w' => ∃ v, e = .returned (.tuple #[v, .bool true]) ∧ w'.ownsRow w.heap.size 53 3 v ts.length (flatT (ts.map (plT ns))) ∧ Below w.heap.size w w' := by
 have HT : Hid (TriAt w ta ts) := ht
 have HM : Hid (∀ t ∈ ts, t.1 ∈ ns ∧ t.2.1 ∈ ns ∧ t.2.2 ∈ ns) := hm
 have PC : Hid (∀ n W, Below w.heap.size w W → Calls Tryz.prog 99 #[.pointer (some ⟨K, 0, none⟩), .int .i64 n] W fun e w' => e = .returned (.int .i64 (placeN ns n)) ∧ w' = W) := fun n W hb =>
  place_any K na nc ns n W hl ((hb.cell (p := ⟨K, 2, none⟩) (World.block_lt_of_cell? w _ hK)).trans hK) (hn.below hb)
 obtain ⟨iE, hiE, hzE, hsE, hbE⟩ := info_parts infoE1
 clear ht hm hn hK
 go_enter Tryz.func101, Tryz.ntmps101
 go_wp2
 go_loopw [6, 7] (fun s6 s7 wr => ∃ i : Nat, i ≤ ts.length ∧ s7 = .int .i64 i ∧ wr.ownsRow w.heap.size 53 3 s6 i (flatT ((ts.take i).map (plT ns))) ∧ Below w.heap.size w wr) (fun _ i _ => ts.length - (intOf i).toNat)
 case atStart => exact ⟨0, Nat.zero_le _, rfl, World.ownsRow_nil _ _ _ _, Below.refl _ _⟩
 case round =>
  obtain ⟨i, hi, rfl, hown, hbr⟩ := hrel
  by_cases hil : i < ts.length
  ·obtain ⟨g, rfl, hg, hc⟩ := HT.out.at hil
   have HC : Hid (∀ j, j < 3 → w.cell? ⟨g, i * 3 + j, none⟩ = some (iv (nth3 (ts.getD i (0, 0, 0)) j))) := hc
   have hmem : ts.getD i (0, 0, 0) ∈ ts := by
    have : ts.getD i (0, 0, 0) = ts[i] := by simp [hil]
    rw [this]; exact List.getElem_mem hil
   have HME : Hid (∀ j, j < 3 → 0 ≤ placeN ns (nth3 (ts.getD i (0, 0, 0)) j)) := fun j hj => by
    obtain ⟨h1, h2, h3⟩ := HM.out _ hmem
    have : j = 0 ∨ j = 1 ∨ j = 2 := by omega
    rcases this with rfl | rfl | rfl
    ·exact (placeN_mem h1).1
    ·exact (placeN_mem h2).1
    ·exact (placeN_mem h3).1
   have HTK : Hid ((ts.take (i + 1)).map (plT ns) = (ts.take i).map (plT ns) ++ [plT ns (ts.getD i (0, 0, 0))]) := by
    have eg : ts.getD i (0, 0, 0) = ts[i] := by simp [hil]
    unfold Hid
    rw [List.take_succ_eq_append_getElem hil, List.map_append, eg]
    rfl
   have HNT : Hid (∀ j, j < 3 → nth3 (plT ns (ts.getD i (0, 0, 0))) j = placeN ns (nth3 (ts.getD i (0, 0, 0)) j)) := fun j hj => nth3_plT ns _ hj
   have y0 : (0 : Int) ≤ (i : Int) := by omega
   have y1 : (i : Int) < (ts.length : Int) := by omega
   have y2 : IntKind.i64.wrap ((i : Int) + 1) = (i : Int) + 1 := wrap_id (by omega) (by omega)
   obtain ⟨oa, oc, rfl⟩ := ownS_any hown
   have HOW : Hid (wr.ownsRow w.heap.size 53 3 (.slice oa i oc) i (flatT ((ts.take i).map (plT ns)))) := hown
   clear hc hmem hown
   generalize plT ns (ts.getD i (0, 0, 0)) = u at *
   generalize wr = Wr at *
   go_upto_block 2 with fail
   obtain ⟨W1, hW1⟩ : ∃ W1, Wr.alloc (.cells #[.int .i64 0, .int .i64 0, .int .i64 0] 53) = W1 := ⟨_, rfl⟩
   have hX : W1.heap[Wr.heap.size]? = some (.cells (fillT u 0) 53 (0, 0)) := by rw [← hW1]; exact heap_alloc_new _ _
   have hb1 : Below Wr.heap.size Wr W1 := by rw [← hW1]; exact below1 _ _
   have hws : w.heap.size ≤ Wr.heap.size := hbr.size
   rw [hW1]
   clear hW1
   have HXW : Hid (Wr.heap.size = Wr.heap.size) := rfl
   generalize hXX : Wr.heap.size = X at *
   have HXX : Hid (Wr.heap.size = X) := hXX
   clear hXX HXW
   go_cut [9] (fun _ wx => wx.heap[X]? = some (.cells (fillT u 3) 53 (0, 0)) ∧ Below X Wr wx)
   case first =>
    as_aux_lemma =>
    clear HOW HTK HT HM hiE hzE hsE hbE
    go_wp2_with fail
    go_loopw [9] (fun s9 wq => ∃ j : Nat, j ≤ 3 ∧ s9 = .int .i64 j ∧ wq.heap[X]? = some (.cells (fillT u j) 53 (0, 0)) ∧ Below X Wr wq) (fun i _ => 3 - (intOf i).toNat)
    case atStart => exact ⟨0, by omega, rfl, hX, hb1⟩
    case round =>
     clear hX hb1
     obtain ⟨j, hj, rfl, hX, hbq⟩ := hrel
     by_cases hj3 : j < 3
     ·have hwq : Below w.heap.size w wr := hbr.trans (hbq.mono hws)
      have c0 := (hwq.cell (p := ⟨g, i * 3 + j, none⟩) hg).trans (HC.out j hj3)
      have PCj := PC.out (nth3 (ts.getD i (0, 0, 0)) j) wr hwq
      have hpos := HME.out j hj3
      have hnt := HNT.out j hj3
      have hk := heap_setCell_same wr X j _ _ (iv (nth3 u j)) hX
      rw [fillT_set u hj3, hnt] at hk
      have HK : Hid ((wr.setCell ⟨X, j, none⟩ (iv (placeN ns (nth3 (ts.getD i (0, 0, 0)) j)))).heap[X]? = some (.cells (fillT u (j + 1)) 53 (0, 0))) := hk
      have HBK : Hid (Below X Wr (wr.setCell ⟨X, j, none⟩ (iv (placeN ns (nth3 (ts.getD i (0, 0, 0)) j))))) := hbq.setCell (p := ⟨X, j, none⟩) (Nat.le_refl _) _
      have hcell : (wr.setCell ⟨X, j, none⟩ (iv (placeN ns (nth3 (ts.getD i (0, 0, 0)) j)))).cell? ⟨X, j, none⟩ = some (iv (placeN ns (nth3 (ts.getD i (0, 0, 0)) j))) := by
       have h := cell_of_heap hk j
       rw [h, ← fillT_set u hj3, hnt]
       simp [fillT, hj3]
      have hold : ∃ v, wr.cell? ⟨X, j, none⟩ = some v := by
       have h := cell_of_heap hX j
       rw [h]
       have : j < (fillT u j).size := by simp [fillT]; omega
       exact ⟨_, Array.getElem?_eq_getElem this⟩
      obtain ⟨v0, hold⟩ := hold
      have hfr := frozen_of_heap hX j
      generalize placeN ns (nth3 (ts.getD i (0, 0, 0)) j) = pn at *
      generalize nth3 (ts.getD i (0, 0, 0)) j = tn at *
      have z0 : (0 : Int) ≤ (j : Int) := by omega
      have z1 : (j : Int) < 3 := by omega
      have z2 : IntKind.i64.wrap ((j : Int) + 1) = (j : Int) + 1 := wrap_id (by omega) (by omega)
      have z3 : decide (pn < 0) = false := decide_eq_false (by omega)
      have z4 : ¬ pn < 0 := by omega
      clear hX hbq hwq hk hnt
      go_wp2_with (go_at_call 99; refine PCj.mono ?_; rintro e w5 ⟨rfl, rfl⟩)
      go_roundw
      case rel => exact ⟨j + 1, by omega, by go_num, HK.out, HBK.out⟩
      case measure => simp [intOf]; omega
     ·have ej : j = 3 := by omega
      subst ej
      go_wp2
      go_meet
      case rel => exact ⟨hX, hbq⟩
   case rest =>
    as_aux_lemma =>
    obtain ⟨hX3, hb3⟩ := hcut
    have hw3 : Below w.heap.size w wc := hbr.trans (hb3.mono hws)
    have hown3 : wc.ownsRow w.heap.size 53 3 (.slice oa i oc) i (flatT ((ts.take i).map (plT ns))) := ownS_keep HOW.out fun g hg => hb3.block g (by have := ownS_lt HOW.out hg; have := HXX.out; omega)
    have HOW3 : Hid (wc.ownsRow w.heap.size 53 3 (.slice oa i oc) i (flatT ((ts.take i).map (plT ns)))) := hown3
    have x0 : wc.cell? ⟨X, 0, none⟩ = some (iv u.1) := cell_of_heap hX3 0
    have x1 : wc.cell? ⟨X, 1, none⟩ = some (iv u.2.1) := cell_of_heap hX3 1
    have x2 : wc.cell? ⟨X, 2, none⟩ = some (iv u.2.2) := cell_of_heap hX3 2
    have hsz := hw3.size
    have hXl : X < wc.heap.size := lt_some hX3
    have HE : Hid (flatT ((ts.take (i + 1)).map (plT ns)) = flatT ((ts.take i).map (plT ns)) ++ [iv u.1, iv u.2.1, iv u.2.2]) := by unfold Hid; rw [HTK.out, flatT_snoc]
    clear hX hb1 hX3 hb3 hbr hown3 HOW HTK HNT HME HC HXX
    generalize wc = Wz at *
    have hn1 := cell_new3v Wz (iv u.1) (iv u.2.1) (iv u.2.2) 53
    have HN1 : Hid (∀ j x, [iv u.1, iv u.2.1, iv u.2.2][j]? = some x → (Wz.alloc (.cells #[iv u.1, iv u.2.1, iv u.2.2] 53)).cell? ((⟨Wz.heap.size, 0, none⟩ : Addr).add j) = some x) := hn1
    clear hn1
    go_wp2_with (at_builtin; refine wpList_append_where _ (by rfl) (.tmp 34) (.tmp 36) 42 (by rfl) w.heap.size 53 iE (.agg #[.int .i64 0, .int .i64 0, .int .i64 0]) 3 24 Tryz.underlying42 hiE hzE hsE hbE rfl (by decide) _ _ _ (by rfl) (ownB_below HOW3.out (below1 _ _)) ⟨Wz.heap.size, 0, none⟩ 1 1 [iv u.1, iv u.2.1, iv u.2.2] (by rfl) rfl HN1.out ?c2 (by decide) ?c3 ?c4 ?c5 (Wz.heap.size + 1) ?c6 ?_)
    case c2 => intro x hx; simp at hx; rcases hx with rfl | rfl | rfl <;> rfl
    case c3 => unfold maxLen; omega
    case c4 => omega
    case c5 => simp; omega
    case c6 => simp
    ·intro g2 cap2 w3 hown5 hat5 hlt5
     have HR : Hid (w3.ownsRow w.heap.size 53 3 (.slice (some ⟨g2, 0, none⟩) (i + 1) cap2) (i + 1) (flatT ((ts.take (i + 1)).map (plT ns))) ∧ Below w.heap.size w w3) := by
      refine ⟨by rw [HE.out]; first | exact hown5 | (rw [List.map_take]; exact hown5), ?_⟩
      have k1 := hw3.trans ((below1 Wz (.cells #[iv u.1, iv u.2.1, iv u.2.2] 53)).mono hw3.size)
      rcases hat5 with ⟨hv, hgr⟩ | ⟨hv, hgr⟩
      ·exact k1.grown hgr (by simp; omega) fun k hk => by cases hk; exact (hown5.lt _ rfl).1
      ·exact k1.grown hgr (by simp; omega) fun k hk => by cases hk
     clear hown5 hat5 hlt5 HOW3 HE x0 x1 x2
     go_wp2
     go_roundw
     case rel => exact ⟨i + 1, by omega, by go_num, HR.out.1, HR.out.2⟩
     case measure => simp [intOf]; omega
  ·have ei : i = ts.length := by omega
   subst ei
   have HOW : Hid (wr.ownsRow w.heap.size 53 3 u6 ts.length (flatT (ts.map (plT ns))) ∧ Below w.heap.size w wr) := ⟨by rw [List.take_length] at hown; exact hown, hbr⟩
   clear hown hbr
   go_wp2
   go_ret2
   exact ⟨_, rfl, HOW.out.1, HOW.out.2⟩
end Go.Proofs.YtgpapegpdfonpaaGreatDoor
