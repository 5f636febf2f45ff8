/-
  The document's own answer for meshes: dist of any numbers, Nearest; Known.place.
  The document's own answer for meshes: has, Joined.
-/
import Derived.Test.YtgpapegpdfonpaaGreatDoorJoinsAB
import Derived.Test.YtgpapegpdfonpaaGreatDoorNetJL
import Derived.Test.YtgpapegpdfonpaaGreatDoorOwnSow
import Derived.Deep.RegionHeld3
import Derived.Deep.CutRange
import Derived.BigRegion
import Derived.BigQuiet
import Derived.Deep.DeepCutAuto
import Derived.Deep.CutBlock
set_option linter.unusedVariables false
set_option linter.unusedSimpArgs false
namespace Go.Proofs.YtgpapegpdfonpaaGreatDoor
open Go.RowKit
attribute [local go_sem ↓] Go.wp_at_zero Go.wp_at_succ
set_option maxHeartbeats 400000 in
theorem rdistW_any (ax ay bx by' : Int) (w : World) :
  Calls Tryz.prog 91 #[.agg #[.int .i64 ax, .int .i64 ay], .agg #[.int .i64 bx, .int .i64 by']] w fun e w' =>
   e = .returned (.int .i64 (dW (ax, ay) (bx, by'))) ∧ Below w.heap.size w w' := by
 unfold dW
 simp only
 go_enter Tryz.func91, Tryz.ntmps91
 go_wp2
 go_ret
 exact ⟨rfl, below2 _ _ _⟩
set_option maxRecDepth 100000 in
set_option maxHeartbeats 4000000 in
theorem rnear_any (b off cap : Nat) (l : List Pt) (px py : Int) (w : World) (hl : l.length ≤ 60) (hb : b < w.heap.size) (hp : PtsAt w b off l) :
  Calls Tryz.prog 64 #[.slice (some ⟨b, off, none⟩) l.length cap, .agg #[.int .i64 px, .int .i64 py]] w fun e w' => e = .returned (.int .i64 (bestW l (px, py) l.length)) ∧ Below w.heap.size w w' := by
 go_enter Tryz.func64, Tryz.ntmps64
 go_wp2
 have hb0 := below1 w (.cells #[.int .i64 px, .int .i64 py] 37)
 have x0 : (w.alloc (.cells #[.int .i64 px, .int .i64 py] 37)).cell? ⟨w.heap.size, 0, none⟩ = some (.int .i64 px) := by rw [World.cell?_alloc_at _ _ _ _ (by simp)]; rfl
 have x1 : (w.alloc (.cells #[.int .i64 px, .int .i64 py] 37)).cell? ⟨w.heap.size, 1, none⟩ = some (.int .i64 py) := by rw [World.cell?_alloc_at _ _ _ _ (by simp)]; rfl
 have hs0 : (w.alloc (.cells #[.int .i64 px, .int .i64 py] 37)).heap.size = w.heap.size + 1 := by simp
 generalize w.alloc (.cells #[.int .i64 px, .int .i64 py] 37) = W at *
 have hpW := hp.below hb0 hb
 have hbW : b < W.heap.size := by omega
 have hxW : w.heap.size < W.heap.size := by omega
 clear hp hs0
 generalize hBX : w.heap.size = BX at *
 go_loopw [5, 6] (fun s5 s6 wr => ∃ k : Nat, k ≤ l.length ∧ s6 = .int .i64 k ∧ s5 = .int .i64 (bestW l (px, py) k) ∧ Below W.heap.size W wr) (fun _ i _ => l.length - (intOf i).toNat)
 case atStart => exact ⟨0, Nat.zero_le _, rfl, rfl, Below.refl _ _⟩
 case round =>
  obtain ⟨k, hk, rfl, rfl, hbr⟩ := hrel
  by_cases hkl : k < l.length
  ·obtain ⟨c0, c1⟩ := (hpW.below hbr hbW) k hkl
   have y0 : (0 : Int) ≤ (k : Int) := by omega
   have y1 : (k : Int) < (l.length : Int) := by omega
   have y4 : IntKind.i64.wrap ((k : Int) + 1) = (k : Int) + 1 := wrap_id (by omega) (by omega)
   by_cases hk0 : k = 0
   ·subst hk0
    have e0 : bestW l (px, py) 0 = -1 := rfl
    have HB : Hid (bestW l (px, py) (0 + 1) = ((0 : Nat) : Int)) := by
     show bestW l (px, py) (0 + 1) = _
     rw [bestW, e0, if_pos (.inl (by omega))]
    rw [e0]
    clear e0
    go_wp2_with fail
    go_quiet (fail)
    go_wp2
    go_roundw
    case rel => exact ⟨0 + 1, by omega, by go_num, by rw [HB.out], below_drewN hbr⟩
    case measure => simp [intOf]; omega
   ·obtain ⟨g0, g1⟩ := bestW_bd l (px, py) k (by omega)
    have HS : Hid (bestW l (px, py) (k + 1) = if bestW l (px, py) k < 0 ∨ dW (ptAt l k) (px, py) < dW (pOf l (bestW l (px, py) k)) (px, py) then (k : Int) else bestW l (px, py) k) := by
     show bestW l (px, py) (k + 1) = _
     rw [bestW]
    obtain ⟨m, em⟩ : ∃ m : Nat, bestW l (px, py) k = (m : Int) := ⟨(bestW l (px, py) k).toNat, by omega⟩
    rw [em] at HS g0 g1 ⊢
    have hm : m < l.length := by omega
    obtain ⟨c2, c3⟩ := (hpW.below hbr hbW) m hm
    have pm : pOf l (m : Int) = ptAt l m := by unfold pOf; rw [Int.toNat_natCast]
    rw [pm] at HS
    have e1 : ptAt l k = ((l.getD k (0, 0)).1, (l.getD k (0, 0)).2) := rfl
    have e2 : ptAt l m = ((l.getD m (0, 0)).1, (l.getD m (0, 0)).2) := rfl
    rw [e1, e2] at HS
    clear em pm e1 e2
    generalize (l.getD k (0, 0)).1 = qx at *
    generalize (l.getD k (0, 0)).2 = qy at *
    generalize (l.getD m (0, 0)).1 = mx at *
    generalize (l.getD m (0, 0)).2 = my at *
    have z0 : (0 : Int) ≤ (m : Int) := by omega
    have z1 : (m : Int) < (l.length : Int) := by omega
    have z2 : decide ((m : Int) < 0) = false := decide_eq_false (by omega)
    have z3 : ¬ ((m : Int) < 0) := by omega
    have q0 := (hbr.cell (p := ⟨BX, 0, none⟩) hxW).trans x0
    have q1 := (hbr.cell (p := ⟨BX, 1, none⟩) hxW).trans x1
    have zb : b < wr.heap.size := Nat.lt_of_lt_of_le hbW hbr.size
    have zx : BX < wr.heap.size := Nat.lt_of_lt_of_le hxW hbr.size
    generalize hd1 : dW (qx, qy) (px, py) = d1 at *
    generalize hd2 : dW (mx, my) (px, py) = d2 at *
    have HD1 : Hid (dW (qx, qy) (px, py) = d1) := hd1
    have HD2 : Hid (dW (mx, my) (px, py) = d2) := hd2
    clear hd1 hd2 g0 g1
    by_cases hdd : d1 < d2
    ·have HB : Hid (bestW l (px, py) (k + 1) = (k : Int)) := by
      have := HS.out
      rw [if_pos (.inr hdd)] at this
      exact this
     have hdt : decide (d1 < d2) = true := decide_eq_true hdd
     clear HS
     go_wp2_with fail
     go_region_held3 (fun w' => Below wr.heap.size wr w' ∧ ∀ b o, b < wr.heap.size → w'.cell? ⟨b, o, none⟩ = wr.cell? ⟨b, o, none⟩) (first | exact keep0 _ | exact keep1 (by assumption) hb1)
      (first | (go_at_call 91; refine (rdistW_any _ _ _ _ _).mono ?_; rintro e w' ⟨rfl, hb1⟩; first | rw [HD1.out] | rw [HD2.out]))
     rename_i hS
     have hR := hbr.trans (hS.1.mono hbr.size)
     clear hS hb1
     go_wp2
     go_roundw
     case rel => exact ⟨k + 1, by omega, by go_num, by rw [HB.out], hR⟩
     case measure => simp [intOf]; omega
    ·have HB : Hid (bestW l (px, py) (k + 1) = (m : Int)) := by
      have := HS.out
      rw [if_neg (by omega)] at this
      exact this
     have hdt : decide (d1 < d2) = false := decide_eq_false hdd
     clear HS
     go_wp2_with fail
     go_region_held3 (fun w' => Below wr.heap.size wr w' ∧ ∀ b o, b < wr.heap.size → w'.cell? ⟨b, o, none⟩ = wr.cell? ⟨b, o, none⟩) (first | exact keep0 _ | exact keep1 (by assumption) hb1)
      (first | (go_at_call 91; refine (rdistW_any _ _ _ _ _).mono ?_; rintro e w' ⟨rfl, hb1⟩; first | rw [HD1.out] | rw [HD2.out]))
     rename_i hS
     have hR := hbr.trans (hS.1.mono hbr.size)
     clear hS hb1
     go_wp2
     go_roundw
     case rel => exact ⟨k + 1, by omega, by go_num, by rw [HB.out], hR⟩
     case measure => simp [intOf]; omega
  ·have ek : k = l.length := by omega
   subst ek
   have HR : Hid (Below BX w wr) := hb0.trans (hbr.mono (by omega))
   clear hbr hb0
   go_wp2
   go_ret
   rw [hBX]
   exact ⟨rfl, HR.out⟩
set_option maxHeartbeats 800000 in
theorem rnear_none (a : Option Addr) (cap : Nat) (px py : Int) (w : World) :
  Calls Tryz.prog 64 #[.slice a 0 cap, .agg #[.int .i64 px, .int .i64 py]] w fun e w' => e = .returned (.int .i64 (-1)) ∧ Below w.heap.size w w' := by
 go_enter Tryz.func64, Tryz.ntmps64
 go_wp2
 have hb0 := below1 w (.cells #[.int .i64 px, .int .i64 py] 37)
 generalize w.alloc (.cells #[.int .i64 px, .int .i64 py] 37) = W at *
 go_loopw [5, 6] (fun s5 s6 wr => s6 = .int .i64 0 ∧ s5 = .int .i64 (-1) ∧ wr = W) (fun _ _ _ => 0)
 case atStart => exact ⟨rfl, rfl, rfl⟩
 case round =>
  obtain ⟨rfl, rfl, rfl⟩ := hrel
  go_wp2
  go_ret
  exact ⟨rfl, hb0⟩
theorem rnearest (a : Option Addr) (cap : Nat) (l : List Pt) (px py : Int) (w : World) (hl : l.length ≤ 60) (hr : RawAt w a l) :
  Calls Tryz.prog 64 #[.slice a l.length cap, .agg #[.int .i64 px, .int .i64 py]] w fun e w' => e = .returned (.int .i64 (bestW l (px, py) l.length)) ∧ Below w.heap.size w w' := by
 rcases hr with rfl | ⟨b, off, rfl, hb, hp⟩
 ·exact rnear_none a cap px py w
 ·exact rnear_any b off cap l px py w hl hb hp
set_option maxHeartbeats 2000000 in
theorem place_any (K : Nat) (na : Option Addr) (nc : Nat) (ns : List Int) (n : Int) (w : World) (hl : ns.length ≤ 1000) (hK : w.cell? ⟨K, 2, none⟩ = some (.slice na ns.length nc)) (hn : NumsAt w na ns) :
  Calls Tryz.prog 99 #[.pointer (some ⟨K, 0, none⟩), .int .i64 n] w fun e w' => e = .returned (.int .i64 (placeN ns n)) ∧ w' = w := by
 have hKl := World.block_lt_of_cell? w _ hK
 go_enter Tryz.func99, Tryz.ntmps99
 go_wp2
 go_loopw [5] (fun s5 wr => ∃ k : Nat, k ≤ ns.length ∧ s5 = .int .i64 k ∧ (∀ j, j < k → ns.getD j 0 ≠ n) ∧ wr = w) (fun i _ => ns.length - (intOf i).toNat)
 case atStart => exact ⟨0, Nat.zero_le _, rfl, fun j hj => by omega, rfl⟩
 case round =>
  obtain ⟨k, hk, rfl, hno, rfl⟩ := hrel
  by_cases hkl : k < ns.length
  ·obtain ⟨g, rfl, c0⟩ := hn k hkl
   have y0 : (0 : Int) ≤ (k : Int) := by omega
   have y1 : (k : Int) < (ns.length : Int) := by omega
   have y4 : IntKind.i64.wrap ((k : Int) + 1) = (k : Int) + 1 := wrap_id (by omega) (by omega)
   by_cases he : ns.getD k 0 = n
   ·have HP : Hid (placeN ns n = k) := placeN_first hkl hno he
    rw [he] at c0
    have hq : (n == n) = true := by simp
    clear he hno hn
    go_wp2
    go_ret
    exact ⟨by rw [HP.out]; rfl, rfl⟩
   ·have HN : Hid (∀ j, j < k + 1 → ns.getD j 0 ≠ n) := fun j hj => by
     by_cases e : j = k
     ·subst e; exact he
     ·exact hno j (by omega)
    have hq : (ns.getD k 0 == n) = false := beq_eq_false_iff_ne.2 he
    generalize ns.getD k 0 = v at *
    clear hno hn
    go_wp2
    go_roundw
    case rel => exact ⟨k + 1, by omega, by go_num, HN.out, by first | rfl | trivial⟩
    case measure => simp [intOf]; omega
  ·have HP : Hid (placeN ns n = -1) := placeN_none fun hm => by
    obtain ⟨j, hj, e⟩ := List.getElem_of_mem hm
    exact hno j (by omega) (by simp [hj, e])
   clear hno hn
   go_wp2
   go_ret
   exact ⟨by rw [HP.out]; rfl, rfl⟩
end Go.Proofs.YtgpapegpdfonpaaGreatDoor

namespace Go.Proofs.YtgpapegpdfonpaaGreatDoor
open Go.RowKit
attribute [local go_sem ↓] Go.wp_at_zero Go.wp_at_succ
set_option maxHeartbeats 800000 in
theorem has_any (x y z n : Int) (w : World) :
  Calls Tryz.prog 154 #[.agg #[.int .i64 x, .int .i64 y, .int .i64 z], .int .i64 n] w fun e w' => e = .returned (.bool (hasB (x, y, z) n)) ∧ Below w.heap.size w w' := by
 have HH : Hid (hasB (x, y, z) n = (x == n || y == n || z == n)) := rfl
 by_cases h1 : x = n
 ·have q1 : (x == n) = true := beq_iff_eq.2 h1
  have HR : Hid (hasB (x, y, z) n = true) := by unfold Hid; rw [HH.out, q1]; rfl
  clear h1
  go_enter Tryz.func154, Tryz.ntmps154
  go_wp2
  go_ret
  exact ⟨by rw [HR.out]; rfl, below1 _ _⟩
 ·have q1 : (x == n) = false := beq_eq_false_iff_ne.2 h1
  by_cases h2 : y = n
  ·have q2 : (y == n) = true := beq_iff_eq.2 h2
   have HR : Hid (hasB (x, y, z) n = true) := by unfold Hid; rw [HH.out, q1, q2]; rfl
   clear h1 h2
   go_enter Tryz.func154, Tryz.ntmps154
   go_wp2
   go_ret
   exact ⟨by rw [HR.out]; rfl, below1 _ _⟩
  ·have q2 : (y == n) = false := beq_eq_false_iff_ne.2 h2
   have HR : Hid (hasB (x, y, z) n = (z == n)) := by unfold Hid; rw [HH.out, q1, q2]; rfl
   clear h1 h2
   go_enter Tryz.func154, Tryz.ntmps154
   go_wp2
   go_ret
   exact ⟨by rw [HR.out]; rfl, below1 _ _⟩
theorem rowJ_start (l : List Pt) (ts : List T3) (fl : Bool) (a : Nat) : rowJ l ts fl a (a + 1) = [] := by
 unfold rowJ
 rw [List.filter_eq_nil_iff.2, List.map_nil]
 intro b hb
 have := List.mem_range.1 hb
 simp only [Bool.and_eq_true, decide_eq_true_eq, not_and]
 omega
theorem rowJ_succ (l : List Pt) (ts : List T3) (fl : Bool) {a b : Nat} (h : a < b) : rowJ l ts fl a (b + 1) = rowJ l ts fl a b ++ (if joinB l ts fl a b = true then [(a, b)] else []) := by
 unfold rowJ
 rw [List.range_succ, List.filter_append, List.map_append]
 congr 1
 by_cases hj : joinB l ts fl a b = true
 ·simp [h, hj]
 ·simp [h, hj]
theorem allJ_succ (l : List Pt) (ts : List T3) (fl : Bool) (a : Nat) : allJ l ts fl (a + 1) = allJ l ts fl a ++ rowJ l ts fl a l.length := by
 unfold allJ
 rw [List.range_succ, List.flatMap_append]
 simp
theorem rowJ_len (l : List Pt) (ts : List T3) (fl : Bool) (a b : Nat) : (rowJ l ts fl a b).length ≤ b := by
 unfold rowJ
 rw [List.length_map]
 exact Nat.le_trans (List.length_filter_le _ _) (by simp)
theorem allJ_len (l : List Pt) (ts : List T3) (fl : Bool) : ∀ a, (allJ l ts fl a).length ≤ a * l.length
 | 0 => by simp [allJ]
 | a + 1 => by
  rw [allJ_succ, List.length_append, Nat.add_mul]
  have := allJ_len l ts fl a
  have := rowJ_len l ts fl a l.length
  omega
def flat2 (q : List (Nat × Nat)) : List Value := q.flatMap fun x => [.int .i64 (x.1 : Int), .int .i64 (x.2 : Int)]
theorem flat2_append (q r : List (Nat × Nat)) : flat2 (q ++ r) = flat2 q ++ flat2 r := by simp [flat2]
theorem flat2_get : ∀ (q : List (Nat × Nat)) (i : Nat) (h : i < q.length), (flat2 q)[i * 2]? = some (.int .i64 (q[i].1 : Int)) ∧ (flat2 q)[i * 2 + 1]? = some (.int .i64 (q[i].2 : Int))
 | [], i, h => by simp at h
 | x :: q, 0, _ => ⟨rfl, rfl⟩
 | x :: q, i + 1, h => by
  have := flat2_get q i (by simpa using h)
  have e : flat2 (x :: q) = .int .i64 (x.1 : Int) :: .int .i64 (x.2 : Int) :: flat2 q := rfl
  rw [e, show (i + 1) * 2 = i * 2 + 1 + 1 by omega]
  simpa using this
theorem freeB_succ (l : List Pt) (a b k : Nat) : freeB l a b (k + 1) = (freeB l a b k && (k == a || k == b || decide (0 ≤ dt (ptAt l a) (ptAt l b) (ptAt l k)))) := by
 unfold freeB
 rw [List.range_succ, List.all_append]
 simp
theorem info2 : (Tryz.prog.info? 164).map (fun i => (i.zero, i.size, i.bytes)) = some (some (.agg #[.int .i64 0, .int .i64 0]), 2, 16) := by kernel_rfl
theorem cell_newT (w : World) (v u : Value) (t : TypeId) : ∀ j x, [v, u][j]? = some x → (w.alloc (.cells #[v, u] t)).cell? ((⟨w.heap.size, 0, none⟩ : Addr).add j) = some x := by
 intro j x hj
 have hadd : (⟨w.heap.size, 0, none⟩ : Addr).add j = ⟨w.heap.size, j, none⟩ := by unfold Addr.add; split <;> simp_all
 rw [hadd]
 have e := heap_alloc_new w (.cells #[v, u] t)
 simp only [World.cell?, e]
 simpa using hj
set_option maxRecDepth 100000 in
set_option maxHeartbeats 8000000 in
theorem joined_any (b off cap : Nat) (ta : Option Addr) (tc : Nat) (l : List Pt) (ts : List T3) (fl : Bool) (w : World) (hl : l.length ≤ 60) (htl : ts.length ≤ 4000) (hn : AllNear l) (hb : b < w.heap.size) (hp : PtsAt w b off l)
  (ht : ts = [] ∨ ∃ g, ta = some ⟨g, 0, none⟩ ∧ g < w.heap.size ∧ TrisAt w g ts) (hfl : fl = true ↔ ∀ i, 2 ≤ i → i < l.length → sd (ptAt l 0) (ptAt l 1) (ptAt l i) = 0) :
  Calls Tryz.prog 129 #[.slice (some ⟨b, off, none⟩) l.length cap, .slice ta ts.length tc] w fun e w' => ∃ v, e = .returned v ∧ w'.ownsRow w.heap.size 164 2 v (allJ l ts fl l.length).length (flat2 (allJ l ts fl l.length)) ∧ Below w.heap.size w w' := by
 have HF := flat_any b off cap l w hl hn hb hp
 have HN : Hid (AllNear l) := hn
 have HFL : Hid (fl = true ↔ ∀ i, 2 ≤ i → i < l.length → sd (ptAt l 0) (ptAt l 1) (ptAt l i) = 0) := hfl
 have HT : Hid (ts = [] ∨ ∃ g, ta = some ⟨g, 0, none⟩ ∧ g < w.heap.size ∧ TrisAt w g ts) := ht
 have HAL : Hid (∀ a, (allJ l ts fl a).length ≤ a * l.length) := allJ_len l ts fl
 obtain ⟨iP, hiP, hzP, hsP, hbP⟩ := info_parts info2
 clear hn hfl ht
 go_enter Tryz.func129, Tryz.ntmps129
 go_upto_region 3 with (go_at_call 92; refine HF.mono ?_; rintro e w1 ⟨B, rfl, hB, hb1⟩)
 have hBf : B = fl := by
  rw [Bool.eq_iff_iff, hB, HFL.out]
 subst hBf
 clear HF hB
 go_wp2_with fail
 go_loopw [5, 7] (fun s5 s7 wr => ∃ a : Nat, a ≤ l.length ∧ s7 = .int .i64 a ∧ wr.ownsRow w.heap.size 164 2 s5 (allJ l ts B a).length (flat2 (allJ l ts B a)) ∧ Below w.heap.size w wr) (fun _ i _ => l.length - (intOf i).toNat)
 case atStart => exact ⟨0, Nat.zero_le _, rfl, World.ownsRow_nil _ _ _ _, hb1⟩
 case round =>
  clear hb1
  obtain ⟨a, ha, rfl, hown, hbr⟩ := hrel
  by_cases hal : a < l.length
  ·have y0 : (0 : Int) ≤ (a : Int) := by omega
   have y1 : (a : Int) < (l.length : Int) := by omega
   have y2 : IntKind.i64.wrap ((a : Int) + 1) = (a : Int) + 1 := wrap_id (by omega) (by omega)
   go_wp2_with fail
   generalize wr = Wa at *
   go_loopw [5, 8] (fun s5 s8 wr => ∃ c : Nat, a < c ∧ c ≤ l.length ∧ s8 = .int .i64 c ∧ wr.ownsRow w.heap.size 164 2 s5 (allJ l ts B a ++ rowJ l ts B a c).length (flat2 (allJ l ts B a ++ rowJ l ts B a c)) ∧ Below w.heap.size w wr) (fun _ i _ => l.length - (intOf i).toNat)
   case atStart => exact ⟨a + 1, by omega, by omega, by go_num, by rw [rowJ_start, List.append_nil]; exact hown, hbr⟩
   case round =>
    clear hown hbr
    obtain ⟨c, hac, hc, rfl, hown, hbr⟩ := hrel
    by_cases hcl : c < l.length
    ·have z0 : (0 : Int) ≤ (c : Int) := by omega
     have z1 : (c : Int) < (l.length : Int) := by omega
     have z4 : IntKind.i64.wrap ((c : Int) + 1) = (c : Int) + 1 := wrap_id (by omega) (by omega)
     have HOW : Hid (wr.ownsRow w.heap.size 164 2 u5 (allJ l ts B a ++ rowJ l ts B a c).length (flat2 (allJ l ts B a ++ rowJ l ts B a c))) := hown
     have hpr := hp.below hbr hb
     have hbw : b < wr.heap.size := Nat.lt_of_lt_of_le hb hbr.size
     clear hown
     generalize wr = Wx at *
     go_upto_block 4 with fail
     go_cut [9, 10] (fun s9 _ wx => s9 = .bool (B && freeB l a c l.length) ∧ Below Wx.heap.size Wx wx)
     case first =>
      as_aux_lemma =>
      cases B with
      | false =>
       clear HOW HT HAL
       go_wp2_with fail
       go_loopw [9, 10] (fun s9 s10 wr => s9 = .bool false ∧ s10 = .int .i64 0 ∧ wr = Wx) (fun _ _ _ => 0)
       case atStart => exact ⟨rfl, rfl, rfl⟩
       case round =>
        obtain ⟨rfl, rfl, rfl⟩ := hrel
        go_wp2
        go_meet
        case rel => exact ⟨rfl, Below.refl _ _⟩
      | true =>
       clear HOW HT HAL
       go_wp2_with fail
       go_loopw [9, 10] (fun s9 s10 wr => ∃ k : Nat, k ≤ l.length ∧ s10 = .int .i64 k ∧ s9 = .bool (freeB l a c k) ∧ Below Wx.heap.size Wx wr) (fun _ i _ => l.length - (intOf i).toNat)
       case atStart => exact ⟨0, Nat.zero_le _, rfl, rfl, Below.refl _ _⟩
       case round =>
        obtain ⟨k, hk, rfl, rfl, hbk⟩ := hrel
        by_cases hkl : k < l.length
        ·have q0 : (0 : Int) ≤ (k : Int) := by omega
         have q1 : (k : Int) < (l.length : Int) := by omega
         have q4 : IntKind.i64.wrap ((k : Int) + 1) = (k : Int) + 1 := wrap_id (by omega) (by omega)
         have HS : Hid (freeB l a c (k + 1) = (freeB l a c k && (k == a || k == c || decide (0 ≤ dt (ptAt l a) (ptAt l c) (ptAt l k))))) := freeB_succ l a c k
         by_cases hka : k = a
         ·subst hka
          have HR : Hid (freeB l k c (k + 1) = freeB l k c k) := by unfold Hid; rw [HS.out]; simp
          have e1 : ((k : Int) != (k : Int)) = false := by simp
          clear HS
          generalize freeB l k c k = fr at *
          go_wp2_with fail
          go_quiet (fail)
          go_wp2
          go_roundw
          case rel => exact ⟨k + 1, by omega, by go_num, by rw [HR.out], below_drewN hbk⟩
          case measure => simp [intOf]; omega
         ·have e1 : ((k : Int) != (a : Int)) = true := by simp; omega
          by_cases hkc : k = c
          ·subst hkc
           have HR : Hid (freeB l a k (k + 1) = freeB l a k k) := by unfold Hid; rw [HS.out]; simp
           have e2 : ((k : Int) != (k : Int)) = false := by simp
           clear HS
           generalize freeB l a k k = fr at *
           go_wp2_with fail
           go_quiet (fail)
           go_wp2
           go_roundw
           case rel => exact ⟨k + 1, by omega, by go_num, by rw [HR.out], below_drewN hbk⟩
           case measure => simp [intOf]; omega
          ·have e2 : ((k : Int) != (c : Int)) = true := by simp; omega
           obtain ⟨d0, d1⟩ := (hpr.below hbk hbw) a hal
           obtain ⟨d2, d3⟩ := (hpr.below hbk hbw) c hcl
           obtain ⟨d4, d5⟩ := (hpr.below hbk hbw) k hkl
           have nA : Near (l.getD a (0, 0)).1 (l.getD a (0, 0)).2 := HN.out a hal
           have nB : Near (l.getD c (0, 0)).1 (l.getD c (0, 0)).2 := HN.out c hcl
           have nC : Near (l.getD k (0, 0)).1 (l.getD k (0, 0)).2 := HN.out k hkl
           have TC := fun W => between_any _ _ _ _ _ _ W nA nB nC
           have HS2 : Hid (freeB l a c (k + 1) = (freeB l a c k && decide (0 ≤ dt ((l.getD a (0, 0)).1, (l.getD a (0, 0)).2) ((l.getD c (0, 0)).1, (l.getD c (0, 0)).2) ((l.getD k (0, 0)).1, (l.getD k (0, 0)).2)))) := by
            have := HS.out
            have f1 : (k == a) = false := beq_eq_false_iff_ne.2 hka
            have f2 : (k == c) = false := beq_eq_false_iff_ne.2 hkc
            rw [f1, f2, Bool.false_or, Bool.false_or] at this
            exact this
           clear HS nA nB nC
           have gr : b < wr.heap.size := Nat.lt_of_lt_of_le hbw hbk.size
           generalize dt ((l.getD a (0, 0)).1, (l.getD a (0, 0)).2) ((l.getD c (0, 0)).1, (l.getD c (0, 0)).2) ((l.getD k (0, 0)).1, (l.getD k (0, 0)).2) = D at *
           generalize (l.getD a (0, 0)).1 = ax at *
           generalize (l.getD a (0, 0)).2 = ay at *
           generalize (l.getD c (0, 0)).1 = bx at *
           generalize (l.getD c (0, 0)).2 = by2 at *
           generalize (l.getD k (0, 0)).1 = cx at *
           generalize (l.getD k (0, 0)).2 = cy at *
           by_cases hD : D < 0
           ·have HR : Hid (freeB l a c (k + 1) = false) := by unfold Hid; rw [HS2.out, decide_eq_false (p := 0 ≤ D) (by omega), Bool.and_false]
            rw [decide_eq_true hD] at TC
            clear HS2 hD hka hkc
            generalize freeB l a c k = fr at *
            go_wp2_with fail
            go_region_held3 (fun w' => Below wr.heap.size wr w' ∧ ∀ b o, b < wr.heap.size → w'.cell? ⟨b, o, none⟩ = wr.cell? ⟨b, o, none⟩) (first | exact keep0 _ | exact keep1 (by assumption) hb1)
             (first | (go_at_call 123; refine (TC _).mono ?_; rintro e w' ⟨rfl, hb1⟩))
            rename_i hSS
            have hbk2 := hbk.trans (hSS.1.mono hbk.size)
            clear hSS hb1 TC d0 d1 d2 d3 d4 d5
            go_wp2
            go_roundw
            case rel => exact ⟨k + 1, by omega, by go_num, by rw [HR.out], hbk2⟩
            case measure => simp [intOf]; omega
           ·have HR : Hid (freeB l a c (k + 1) = freeB l a c k) := by unfold Hid; rw [HS2.out, decide_eq_true (p := 0 ≤ D) (by omega), Bool.and_true]
            rw [decide_eq_false hD] at TC
            clear HS2 hD hka hkc
            generalize freeB l a c k = fr at *
            go_wp2_with fail
            go_region_held3 (fun w' => Below wr.heap.size wr w' ∧ ∀ b o, b < wr.heap.size → w'.cell? ⟨b, o, none⟩ = wr.cell? ⟨b, o, none⟩) (first | exact keep0 _ | exact keep1 (by assumption) hb1)
             (first | (go_at_call 123; refine (TC _).mono ?_; rintro e w' ⟨rfl, hb1⟩))
            rename_i hSS
            have hbk2 := hbk.trans (hSS.1.mono hbk.size)
            clear hSS hb1 TC d0 d1 d2 d3 d4 d5
            go_wp2
            go_roundw
            case rel => exact ⟨k + 1, by omega, by go_num, by rw [HR.out], hbk2⟩
            case measure => simp [intOf]; omega
        ·have ek : k = l.length := by omega
         subst ek
         generalize freeB l a c l.length = fr at *
         go_wp2
         go_meet
         case rel => exact ⟨by simp, hbk⟩
     case rest =>
      as_aux_lemma =>
      obtain ⟨rfl, hbc⟩ := hcut
      have hbx := hbr.trans (hbc.mono hbr.size)
      have hown2 := ownB_below HOW.out hbc
      have HOW2 : Hid (wc.ownsRow w.heap.size 164 2 u5 (allJ l ts B a ++ rowJ l ts B a c).length (flat2 (allJ l ts B a ++ rowJ l ts B a c))) := hown2
      have HJB : Hid (joinB l ts B a c = (((B && freeB l a c l.length) : Bool) || ts.any fun t => hasB t a && hasB t c)) := rfl
      clear hbc hbr hown2 HOW hpr hbw
      generalize (B && freeB l a c l.length) = j0 at *
      generalize wc = Wy at *
      go_upto_block 6 with fail
      go_cut [9, 11] (fun s9 _ wx => s9 = .bool (joinB l ts B a c) ∧ Below Wy.heap.size Wy wx)
      case first =>
       as_aux_lemma =>
       have HAC : Hid (∀ k, k < ts.length → ∃ g, ta = some ⟨g, 0, none⟩ ∧ g < Wy.heap.size ∧ Wy.cell? ⟨g, k * 3, none⟩ = some (iv (ts.getD k (0, 0, 0)).1) ∧ Wy.cell? ⟨g, k * 3 + 1, none⟩ = some (iv (ts.getD k (0, 0, 0)).2.1) ∧ Wy.cell? ⟨g, k * 3 + 2, none⟩ = some (iv (ts.getD k (0, 0, 0)).2.2)) := fun k hk => by
        rcases HT.out with h | ⟨g, e, hg, h⟩
        ·rw [h] at hk; simp at hk
        ·obtain ⟨h1, h2, h3⟩ := (h.below hbx hg) k hk
         exact ⟨g, e, Nat.lt_of_lt_of_le hg hbx.size, h1, h2, h3⟩
       clear HOW2 HT HAL hbx
       go_wp2_with fail
       go_loopw [9, 11] (fun s9 s11 wr => ∃ i : Nat, i ≤ ts.length ∧ s11 = .int .i64 i ∧ s9 = .bool (j0 || (ts.take i).any fun t => hasB t a && hasB t c) ∧ Below Wy.heap.size Wy wr) (fun _ i _ => ts.length - (intOf i).toNat)
       case atStart => exact ⟨0, Nat.zero_le _, rfl, by simp, Below.refl _ _⟩
       case round =>
        obtain ⟨i, hi, rfl, rfl, hbi⟩ := hrel
        by_cases hil : i < ts.length
        ·obtain ⟨g, rfl, hg, h1, h2, h3⟩ := HAC.out i hil
         have r0 := (hbi.cell (p := ⟨g, i * 3, none⟩) hg).trans h1
         have r1 := (hbi.cell (p := ⟨g, i * 3 + 1, none⟩) hg).trans h2
         have r2 := (hbi.cell (p := ⟨g, i * 3 + 2, none⟩) hg).trans h3
         have q0 : (0 : Int) ≤ (i : Int) := by omega
         have q1 : (i : Int) < (ts.length : Int) := by omega
         have q4 : IntKind.i64.wrap ((i : Int) + 1) = (i : Int) + 1 := wrap_id (by omega) (by omega)
         have HS : Hid ((j0 || (ts.take (i + 1)).any fun t => hasB t a && hasB t c) = ((j0 || (ts.take i).any fun t => hasB t a && hasB t c) || (hasB (ts.getD i (0, 0, 0)) a && hasB (ts.getD i (0, 0, 0)) c))) := by
          show (j0 || (ts.take (i + 1)).any fun t => hasB t a && hasB t c) = _
          have eg : ts.getD i (0, 0, 0) = ts[i] := by simp [hil]
          rw [List.take_succ_eq_append_getElem hil, List.any_append, eg]
          simp [Bool.or_assoc]
         have gi : g < wr.heap.size := Nat.lt_of_lt_of_le hg hbi.size
         clear h1 h2 h3 HAC
         generalize (j0 || (ts.take i).any fun t => hasB t a && hasB t c) = jj at *
         have HH := fun n W => has_any (ts.getD i (0, 0, 0)).1 (ts.getD i (0, 0, 0)).2.1 (ts.getD i (0, 0, 0)).2.2 n W
         have eta : ((ts.getD i (0, 0, 0)).1, (ts.getD i (0, 0, 0)).2.1, (ts.getD i (0, 0, 0)).2.2) = ts.getD i (0, 0, 0) := rfl
         rw [← eta] at HS
         clear eta
         generalize (ts.getD i (0, 0, 0)).1 = tx at *
         generalize (ts.getD i (0, 0, 0)).2.1 = ty at *
         generalize (ts.getD i (0, 0, 0)).2.2 = tz at *
         generalize hh1 : hasB (tx, ty, tz) a = b1 at *
         generalize hh2 : hasB (tx, ty, tz) c = b2 at *
         have H1 : Hid (hasB (tx, ty, tz) a = b1) := hh1
         have H2 : Hid (hasB (tx, ty, tz) c = b2) := hh2
         clear hh1 hh2
         cases jj with
         | true =>
          have HR : Hid ((j0 || (ts.take (i + 1)).any fun t => hasB t a && hasB t c) = true) := by unfold Hid; rw [HS.out]; rfl
          clear HS HH
          go_wp2
          go_roundw
          case rel => exact ⟨i + 1, by omega, by go_num, by rw [HR.out], hbi⟩
          case measure => simp [intOf]; omega
         | false =>
          cases b1 with
          | false =>
           have HR : Hid ((j0 || (ts.take (i + 1)).any fun t => hasB t a && hasB t c) = false) := by unfold Hid; rw [HS.out]; rfl
           clear HS
           go_wp2_with (go_at_call 154; refine (HH _ _).mono ?_; rintro e w5 ⟨rfl, hb5⟩; rw [H1.out])
           have hbj := hbi.trans (hb5.mono hbi.size)
           clear hb5
           go_roundw
           case rel => exact ⟨i + 1, by omega, by go_num, by rw [HR.out], hbj⟩
           case measure => simp [intOf]; omega
          | true =>
           have HR : Hid ((j0 || (ts.take (i + 1)).any fun t => hasB t a && hasB t c) = b2) := by unfold Hid; rw [HS.out]; cases b2 <;> rfl
           clear HS
           go_wp2_with (first
             | (go_at_call 154; refine (HH _ _).mono ?_; rintro e w5 ⟨rfl, hb5⟩; rw [H1.out]
                replace r0 := (hb5.cell (p := ⟨g, i * 3, none⟩) gi).trans r0
                replace r1 := (hb5.cell (p := ⟨g, i * 3 + 1, none⟩) gi).trans r1
                replace r2 := (hb5.cell (p := ⟨g, i * 3 + 2, none⟩) gi).trans r2)
             | (go_at_call 154; refine (HH _ _).mono ?_; rintro e w6 ⟨rfl, hb6⟩; rw [H2.out]))
           have hbj := (hbi.trans (hb5.mono hbi.size)).trans (hb6.mono (hbi.trans (hb5.mono hbi.size)).size)
           clear hb5 hb6
           go_roundw
           case rel => exact ⟨i + 1, by omega, by go_num, by rw [HR.out], hbj⟩
           case measure => simp [intOf]; omega
        ·have ei : i = ts.length := by omega
         subst ei
         have HR : Hid (joinB l ts B a c = (j0 || (ts.take ts.length).any fun t => hasB t a && hasB t c)) := by unfold Hid; rw [HJB.out, List.take_length]
         generalize (j0 || (ts.take ts.length).any fun t => hasB t a && hasB t c) = jj at *
         go_wp2
         go_meet
         case rel => exact ⟨by rw [HR.out], hbi⟩
      case rest =>
       as_aux_lemma =>
       obtain ⟨rfl, hbd⟩ := hcut
       have hby := hbx.trans (hbd.mono hbx.size)
       have hown3 := ownB_below HOW2.out hbd
       have HJ : Hid (rowJ l ts B a (c + 1) = rowJ l ts B a c ++ (if joinB l ts B a c = true then [(a, c)] else [])) := rowJ_succ l ts B hac
       have hcnt : (allJ l ts B a ++ rowJ l ts B a c).length ≤ 3660 := by
        have h1 := HAL.out a
        have h2 := rowJ_len l ts B a c
        have h3 : a * l.length ≤ 60 * 60 := Nat.mul_le_mul (by omega) hl
        rw [List.length_append]
        omega
       clear HJB HOW2 hbd hbx
       generalize wc = Wz at *
       obtain ⟨oa, oc, rfl⟩ := ownS_any hown3
       have HOW3 : Hid (Wz.ownsRow w.heap.size 164 2 (.slice oa (allJ l ts B a ++ rowJ l ts B a c).length oc) (allJ l ts B a ++ rowJ l ts B a c).length (flat2 (allJ l ts B a ++ rowJ l ts B a c))) := hown3
       have hsz := hby.size
       clear hown3
       cases hjj : joinB l ts B a c with
       | false =>
        have HR : Hid (Wz.ownsRow w.heap.size 164 2 (.slice oa (allJ l ts B a ++ rowJ l ts B a c).length oc) (allJ l ts B a ++ rowJ l ts B a (c + 1)).length (flat2 (allJ l ts B a ++ rowJ l ts B a (c + 1)))) := by
         have e : rowJ l ts B a (c + 1) = rowJ l ts B a c := by rw [HJ.out, hjj]; simp
         rw [e]
         exact HOW3.out
        clear hjj HJ HOW3
        go_wp2
        go_roundw
        case rel => exact ⟨c + 1, by omega, by omega, by go_num, HR.out, hby⟩
        case measure => simp [intOf]; omega
       | true =>
        have HE : Hid (flat2 (allJ l ts B a ++ rowJ l ts B a (c + 1)) = flat2 (allJ l ts B a ++ rowJ l ts B a c) ++ [.int .i64 (a : Int), .int .i64 (c : Int)] ∧ (allJ l ts B a ++ rowJ l ts B a (c + 1)).length = (allJ l ts B a ++ rowJ l ts B a c).length + 1) := by
         have e : rowJ l ts B a (c + 1) = rowJ l ts B a c ++ [(a, c)] := by rw [HJ.out, hjj]; simp
         rw [e, ← List.append_assoc]
         exact ⟨flat2_append _ _, by simp only [List.length_append, List.length_singleton]⟩
        clear hjj HJ
        generalize allJ l ts B a ++ rowJ l ts B a c = Q1 at *
        have hn1 := cell_newT Wz (.int .i64 (a : Int)) (.int .i64 (c : Int)) 164
        have HN1 : Hid (∀ j x, [Value.int .i64 (a : Int), .int .i64 (c : Int)][j]? = some x → (Wz.alloc (.cells #[.int .i64 (a : Int), .int .i64 (c : Int)] 164)).cell? ((⟨Wz.heap.size, 0, none⟩ : Addr).add j) = some x) := hn1
        clear hn1
        go_wp2_with (at_builtin; refine wpList_append_where _ (by rfl) (.tmp 85) (.tmp 89) 187 (by rfl) w.heap.size 164 iP (.agg #[.int .i64 0, .int .i64 0]) 2 16 Tryz.underlying187 hiP hzP hsP hbP rfl (by decide) _ _ _ (by rfl) (ownB_below HOW3.out (below1 _ _)) ⟨Wz.heap.size, 0, none⟩ 1 1 [.int .i64 (a : Int), .int .i64 (c : Int)] (by rfl) rfl HN1.out ?c2 (by decide) ?c3 ?c4 ?c5 (Wz.heap.size + 1) ?c6 ?_)
        case c2 => intro u hu; simp at hu; rcases hu with rfl | rfl <;> rfl
        case c3 => unfold maxLen; omega
        case c4 => omega
        case c5 => simp; omega
        case c6 => simp
        ·intro g2 cap2 w3 hown5 hat5 hlt5
         have HR : Hid (w3.ownsRow w.heap.size 164 2 (.slice (some ⟨g2, 0, none⟩) (Q1.length + 1) cap2) (allJ l ts B a ++ rowJ l ts B a (c + 1)).length (flat2 (allJ l ts B a ++ rowJ l ts B a (c + 1))) ∧ Below w.heap.size w w3) := by
          refine ⟨by rw [HE.out.1, HE.out.2]; exact hown5, ?_⟩
          have k1 := hby.trans ((below1 Wz (.cells #[.int .i64 (a : Int), .int .i64 (c : Int)] 164)).mono hby.size)
          rcases hat5 with ⟨hv, hgr⟩ | ⟨hv, hgr⟩
          ·exact k1.grown hgr (by simp; omega) fun k hk => by cases hk; exact (hown5.lt _ rfl).1
          ·exact k1.grown hgr (by simp; omega) fun k hk => by cases hk
         clear hown5 hat5 hlt5 HOW3 HE
         go_wp2
         go_roundw
         case rel => exact ⟨c + 1, by omega, by omega, by go_num, HR.out.1, HR.out.2⟩
         case measure => simp [intOf]; omega
    ·have ec : c = l.length := by omega
     subst ec
     have HOW : Hid (wr.ownsRow w.heap.size 164 2 u5 (allJ l ts B (a + 1)).length (flat2 (allJ l ts B (a + 1)))) := by rw [allJ_succ]; exact hown
     clear hown
     go_wp2
     go_roundw
     case rel => exact ⟨a + 1, by omega, by go_num, HOW.out, hbr⟩
     case measure => simp [intOf]; omega
  ·have ea : a = l.length := by omega
   subst ea
   have HOW : Hid (wr.ownsRow w.heap.size 164 2 u5 (allJ l ts B l.length).length (flat2 (allJ l ts B l.length)) ∧ Below w.heap.size w wr) := ⟨hown, hbr⟩
   clear hown hbr
   go_wp2
   go_ret
   exact ⟨_, rfl, HOW.out.1, HOW.out.2⟩
end Go.Proofs.YtgpapegpdfonpaaGreatDoor
