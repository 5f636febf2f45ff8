/-
  The document's model: Rim.
  The document's model: Is.
  The document's model: Is, walked.
-/
import Derived.Test.YtgpapegpdfonpaaGreatDoorRefDE
import Derived.Deep.CutRange
import Derived.BigRegion
import Derived.BigQuiet
import Derived.Deep.DeepCutAuto
import Derived.Deep.CutBlock
set_option linter.unusedVariables false
set_option linter.unusedSimpArgs false
namespace Go.Proofs.YtgpapegpdfonpaaGreatDoor
open Go.RowKit
def soFar (l : List Pt) (i k : Nat) (v : Int) : Prop := (∃ j, j < k ∧ v = (j : Int) ∧ rimP l i j) ∨ (v = -1 ∧ ∀ j, j < k → ¬ rimP l i j)
def goodP (l : List Pt) (i k j : Nat) : Prop := 0 ≤ sd (ptAt l i) (ptAt l k) (ptAt l j) ∧ (sd (ptAt l i) (ptAt l k) (ptAt l j) = 0 → 0 ≤ dt (ptAt l i) (ptAt l k) (ptAt l j))
theorem soFar_put {l : List Pt} {i k : Nat} (h : rimP l i k) : soFar l i (k + 1) (k : Int) := .inl ⟨k, by omega, rfl, h⟩
theorem soFar_skip {l : List Pt} {i k : Nat} {v : Int} (hs : soFar l i k v) (h : ¬ rimP l i k) : soFar l i (k + 1) v := by
 rcases hs with ⟨j, hj, e, hr⟩ | ⟨e, hr⟩
 ·exact .inl ⟨j, by omega, e, hr⟩
 ·refine .inr ⟨e, fun j hj => ?_⟩
  by_cases ej : j = k
  ·subst ej; exact h
  ·exact hr j (by omega)
theorem iff_T {p q : Prop} (h : (p ∧ True) ↔ q) : p ↔ q := ⟨fun hp => h.1 ⟨hp, trivial⟩, fun hq => (h.2 hq).1⟩
theorem iff_F {p q : Prop} (h : (p ∧ False) ↔ q) : (false = true ↔ q) := ⟨fun e => (by cases e), fun hq => (h.2 hq).2.elim⟩
structure RimDone (w : World) (B : Nat) (l : List Pt) (i : Nat) : Prop where
 at_ : ∃ cur : Array Value, w.heap[B]? = some (.cells cur 3) ∧ cur.size = l.length ∧ ∀ j, j < i → ∃ v, cur[j]? = some (iv v) ∧ soFar l j l.length v
structure RimCur (w : World) (B : Nat) (l : List Pt) (i k : Nat) : Prop where
 at_ : ∃ cur : Array Value, w.heap[B]? = some (.cells cur 3) ∧ cur.size = l.length ∧ (∀ j, j < i → ∃ v, cur[j]? = some (iv v) ∧ soFar l j l.length v) ∧ ∃ v, cur[i]? = some (iv v) ∧ soFar l i k v
theorem RimCur.below {w w' : World} {B i k : Nat} {l : List Pt} (h : RimCur w B l i k) (hb : Below w.heap.size w w') : RimCur w' B l i k := by
 obtain ⟨cur, h1, h2, h3⟩ := h.at_
 exact ⟨cur, (hb.block B (Array.getElem?_eq_some_iff.1 h1).1).trans h1, h2, h3⟩
theorem RimCur.skip {w : World} {B i k : Nat} {l : List Pt} (h : RimCur w B l i k) (hr : ¬ rimP l i k) : RimCur w B l i (k + 1) := by
 obtain ⟨cur, h1, h2, h3, v, h4, h5⟩ := h.at_
 exact ⟨cur, h1, h2, h3, v, h4, soFar_skip h5 hr⟩
theorem RimCur.done {w : World} {B i : Nat} {l : List Pt} (h : RimCur w B l i l.length) : RimDone w B l (i + 1) := by
 obtain ⟨cur, h1, h2, h3, v, h4, h5⟩ := h.at_
 refine ⟨cur, h1, h2, fun j hj => ?_⟩
 by_cases e : j = i
 ·subst e; exact ⟨v, h4, h5⟩
 ·exact h3 j (by omega)
theorem RimDone.start {w : World} {B i : Nat} {l : List Pt} (h : RimDone w B l i) (hi : i < l.length) :
  ∃ V, w.setCell ⟨B, i, none⟩ (iv (-1)) = V ∧ (∃ v, w.cell? ⟨B, i, none⟩ = some v) ∧ w.frozen? ⟨B, i, none⟩ = false ∧ RimCur V B l i 0 ∧ ∀ N, N ≤ B → Below N w V := by
 obtain ⟨cur, h1, h2, h3⟩ := h.at_
 have k1 := heap_setCell_same w B i cur 3 (iv (-1)) h1
 refine ⟨_, rfl, ⟨_, (cell_of_heap h1 i).trans (Array.getElem?_eq_getElem (by omega))⟩, frozen_of_heap h1 i, ⟨_, k1, by simp [h2], ?_, -1, ?_, .inr ⟨rfl, fun j hj => by omega⟩⟩, fun N hN => (Below.refl _ _).setCell (p := ⟨B, i, none⟩) hN _⟩
 ·intro j hj
  obtain ⟨v, e, s⟩ := h3 j hj
  refine ⟨v, ?_, s⟩
  rw [Array.getElem?_setIfInBounds, if_neg (by omega)]; exact e
 ·rw [Array.getElem?_setIfInBounds, if_pos rfl, if_pos (by omega)]
theorem RimCur.put {w : World} {B i k : Nat} {l : List Pt} (h : RimCur w B l i k) (hi : i < l.length) (hr : rimP l i k) :
  ∃ V, w.setCell ⟨B, i, none⟩ (iv k) = V ∧ (∃ v, w.cell? ⟨B, i, none⟩ = some v) ∧ w.frozen? ⟨B, i, none⟩ = false ∧ RimCur V B l i (k + 1) ∧ ∀ N, N ≤ B → Below N w V := by
 obtain ⟨cur, h1, h2, h3, v, h4, h5⟩ := h.at_
 have k1 := heap_setCell_same w B i cur 3 (iv k) h1
 refine ⟨_, rfl, ⟨_, (cell_of_heap h1 i).trans h4⟩, frozen_of_heap h1 i, ⟨_, k1, by simp [h2], ?_, k, ?_, soFar_put hr⟩, fun N hN => (Below.refl _ _).setCell (p := ⟨B, i, none⟩) hN _⟩
 ·intro j hj
  obtain ⟨v, e, s⟩ := h3 j hj
  refine ⟨v, ?_, s⟩
  rw [Array.getElem?_setIfInBounds, if_neg (by omega)]; exact e
 ·rw [Array.getElem?_setIfInBounds, if_pos rfl, if_pos (by omega)]
theorem rim_new (W : World) (l : List Pt) : RimDone (W.alloc (.cells (madeCells #[.int .i64 0] l.length) 3)) W.heap.size l 0 := by
 refine ⟨madeCells #[.int .i64 0] l.length, by simp only [World.alloc, Array.getElem?_push_size], ?_, fun j hj => by omega⟩
 rw [upTo_zero]
 simp [upTo]
set_option maxRecDepth 100000 in
set_option maxHeartbeats 8000000 in
theorem rim_any (b off cap : Nat) (l : List Pt) (w : World) (hl : l.length ≤ 60) (hn : AllNear l) (hb : b < w.heap.size) (hp : PtsAt w b off l) :
  Calls Tryz.prog 94 #[.slice (some ⟨b, off, none⟩) l.length cap] w fun e w' =>
   ∃ B, e = .returned (.slice (some ⟨B, 0, none⟩) l.length l.length) ∧ RimDone w' B l l.length ∧ w.heap.size ≤ B ∧ Below w.heap.size w w' := by
 have hmk := run_make_row' (P := Tryz.prog) 26 3 (.int .i64 0) 8 Tryz.underlying26 info3 rfl .i64 .i64 l.length (by omega) (by omega)
 have HN : Hid (AllNear l) := hn
 clear hn
 go_enter Tryz.func94, Tryz.ntmps94
 go_wp2
 obtain ⟨W0, hW0, hD0, hb0⟩ : ∃ W0, w.alloc (.cells (madeCells #[.int .i64 0] l.length) 3) = W0 ∧ RimDone W0 w.heap.size l 0 ∧ Below w.heap.size w W0 := ⟨_, rfl, rim_new w l, below1 _ _⟩
 rw [hW0]
 clear hW0 hmk
 obtain ⟨B, hB⟩ : ∃ B, w.heap.size = B := ⟨_, rfl⟩
 rw [hB] at hD0
 rw [hB]
 have hBw : w.heap.size ≤ B := by omega
 have HBE : Hid (w.heap.size = B) := hB
 clear hB
 go_loopw [4] (fun s4 wr => ∃ i : Nat, i ≤ l.length ∧ s4 = .int .i64 i ∧ RimDone wr B l i ∧ Below w.heap.size w wr) (fun i _ => l.length - (intOf i).toNat)
 case atStart => exact ⟨0, Nat.zero_le _, rfl, hD0, hb0⟩
 case round =>
  clear hD0 hb0
  obtain ⟨i, hi, rfl, hD, hbr⟩ := hrel
  by_cases hil : i < l.length
  ·obtain ⟨V1, hV1, ⟨v0, s0⟩, r0, hC1, hB1⟩ := hD.start hil
   have hbV1 := hbr.trans (hB1 w.heap.size hBw)
   have y0 : (0 : Int) ≤ (i : Int) := by omega
   have y1 : (i : Int) < (l.length : Int) := by omega
   clear hD hB1 hbr
   go_wp2_with fail
   clear hV1 s0 r0
   generalize wr = Wx at *
   go_loopw [5] (fun s5 wr => ∃ k : Nat, k ≤ l.length ∧ s5 = .int .i64 k ∧ RimCur wr B l i k ∧ Below w.heap.size w wr) (fun i _ => l.length - (intOf i).toNat)
   case atStart => exact ⟨0, Nat.zero_le _, rfl, hC1, hbV1⟩
   case round =>
    clear hC1 hbV1
    obtain ⟨k, hk, rfl, hC, hbr⟩ := hrel
    by_cases hkl : k < l.length
    ·have y4 : IntKind.i64.wrap ((k : Int) + 1) = (k : Int) + 1 := wrap_id (by omega) (by omega)
     by_cases hki : k = i
     ·have e0 : ((k : Int) == (i : Int)) = true := by rw [hki]; simp
      have hnr : ¬ rimP l i k := fun h => h.1 hki.symm
      have hC2 := hC.skip hnr
      clear hC hki hnr
      go_wp2
      go_roundw
      case rel => exact ⟨k + 1, by omega, by go_num, hC2, hbr⟩
      case measure => simp [intOf]; omega
     ·have e0 : ((k : Int) == (i : Int)) = false := beq_eq_false_iff_ne.2 (by omega)
      have y2 : (0 : Int) ≤ (k : Int) := by omega
      have y3 : (k : Int) < (l.length : Int) := by omega
      go_wp2_with fail
      generalize wr = V at *
      go_loopw [6, 7] (fun s6 s7 wx => ∃ (j : Nat) (nb : Bool), j ≤ l.length ∧ s7 = .int .i64 j ∧ s6 = .bool nb ∧ (nb = true ↔ ∀ j', j' < j → j' ≠ i → j' ≠ k → goodP l i k j') ∧ Below V.heap.size V wx) (fun _ i _ => l.length - (intOf i).toNat)
      case atStart => exact ⟨0, true, Nat.zero_le _, rfl, rfl, ⟨fun _ j' h => by omega, fun _ => rfl⟩, Below.refl _ _⟩
      case round =>
       obtain ⟨j, nb, hj, rfl, rfl, hnb, hbj⟩ := hrel
       have HNB : Hid (nb = true ↔ ∀ j', j' < j → j' ≠ i → j' ≠ k → goodP l i k j') := hnb
       clear hnb
       by_cases hjl : j < l.length
       ·have y5 : IntKind.i64.wrap ((j : Int) + 1) = (j : Int) + 1 := wrap_id (by omega) (by omega)
        have step : ∀ {B : Prop}, (B ↔ (j ≠ i → j ≠ k → goodP l i k j)) → ((nb = true ∧ B) ↔ ∀ j', j' < j + 1 → j' ≠ i → j' ≠ k → goodP l i k j') := by
         intro B hB
         rw [HNB.out, hB]
         constructor
         ·rintro ⟨h1, h2⟩ j' hj' n1 n2
          by_cases e : j' = j
          ·subst e; exact h2 n1 n2
          ·exact h1 j' (by omega) n1 n2
         ·exact fun h => ⟨fun j' hj' n1 n2 => h j' (by omega) n1 n2, fun n1 n2 => h j (by omega) n1 n2⟩
        by_cases hji : j = i
        ·have e1 : ((j : Int) == (i : Int)) = true := by rw [hji]; simp
         have HST : Hid (nb = true ↔ ∀ j', j' < j + 1 → j' ≠ i → j' ≠ k → goodP l i k j') := by
          exact iff_T (step (B := True) ⟨fun _ h => absurd hji h, fun _ => trivial⟩)
         clear step hji HNB
         go_wp2
         go_roundw
         case rel => exact ⟨j + 1, nb, by omega, by go_num, rfl, HST.out, hbj⟩
         case measure => simp [intOf]; omega
        ·have e1 : ((j : Int) == (i : Int)) = false := beq_eq_false_iff_ne.2 (by omega)
         by_cases hjk : j = k
         ·have e2 : ((j : Int) == (k : Int)) = true := by rw [hjk]; simp
          have HST : Hid (nb = true ↔ ∀ j', j' < j + 1 → j' ≠ i → j' ≠ k → goodP l i k j') := by
           exact iff_T (step (B := True) ⟨fun _ _ h => absurd hjk h, fun _ => trivial⟩)
          clear step hji hjk HNB
          go_wp2
          go_roundw
          case rel => exact ⟨j + 1, nb, by omega, by go_num, rfl, HST.out, hbj⟩
          case measure => simp [intOf]; omega
         ·have e2 : ((j : Int) == (k : Int)) = false := beq_eq_false_iff_ne.2 (by omega)
          have hbw := hbr.trans (hbj.mono hbr.size)
          have hpr := hp.below hbw hb
          obtain ⟨d0, d1⟩ := hpr i hil
          obtain ⟨d2, d3⟩ := hpr k hkl
          obtain ⟨d4, d5⟩ := hpr j hjl
          have nA : Near (l.getD i (0, 0)).1 (l.getD i (0, 0)).2 := HN.out i hil
          have nB : Near (l.getD k (0, 0)).1 (l.getD k (0, 0)).2 := HN.out k hkl
          have nC : Near (l.getD j (0, 0)).1 (l.getD j (0, 0)).2 := HN.out j hjl
          have SC := fun W => rside_any _ _ _ _ _ _ W nA nB nC
          have TC := fun W => between_any _ _ _ _ _ _ W nA nB nC
          have HST : ∀ {B : Prop}, (B ↔ goodP l i k j) → Hid ((nb = true ∧ B) ↔ ∀ j', j' < j + 1 → j' ≠ i → j' ≠ k → goodP l i k j') := fun hB =>
           step ⟨fun h _ _ => hB.1 h, fun h => hB.2 (h hji hjk)⟩
          have eG : goodP l i k j ↔ (0 ≤ sideN (l.getD i (0, 0)).1 (l.getD i (0, 0)).2 (l.getD k (0, 0)).1 (l.getD k (0, 0)).2 (l.getD j (0, 0)).1 (l.getD j (0, 0)).2 ∧ (sideN (l.getD i (0, 0)).1 (l.getD i (0, 0)).2 (l.getD k (0, 0)).1 (l.getD k (0, 0)).2 (l.getD j (0, 0)).1 (l.getD j (0, 0)).2 = 0 → 0 ≤ dt ((l.getD i (0, 0)).1, (l.getD i (0, 0)).2) ((l.getD k (0, 0)).1, (l.getD k (0, 0)).2) ((l.getD j (0, 0)).1, (l.getD j (0, 0)).2))) := Iff.rfl
          have gr : b < wr.heap.size := Nat.lt_of_lt_of_le hb hbw.size
          clear nA nB nC hpr hji hjk step
          generalize sideN (l.getD i (0, 0)).1 (l.getD i (0, 0)).2 (l.getD k (0, 0)).1 (l.getD k (0, 0)).2 (l.getD j (0, 0)).1 (l.getD j (0, 0)).2 = S at *
          generalize dt ((l.getD i (0, 0)).1, (l.getD i (0, 0)).2) ((l.getD k (0, 0)).1, (l.getD k (0, 0)).2) ((l.getD j (0, 0)).1, (l.getD j (0, 0)).2) = D at *
          generalize (l.getD i (0, 0)).1 = ax at *
          generalize (l.getD i (0, 0)).2 = ay at *
          generalize (l.getD k (0, 0)).1 = bx at *
          generalize (l.getD k (0, 0)).2 = by2 at *
          generalize (l.getD j (0, 0)).1 = cx at *
          generalize (l.getD j (0, 0)).2 = cy at *
          have y6 : (0 : Int) ≤ (j : Int) := by omega
          have y7 : (j : Int) < (l.length : Int) := by omega
          rcases Int.lt_trichotomy S 0 with hS | hS | hS
          ·have HS2 := HST (B := False) ⟨fun h => h.elim, fun h => by have := (eG.1 h).1; omega⟩
           have HS3 : Hid (false = true ↔ ∀ j', j' < j + 1 → j' ≠ i → j' ≠ k → goodP l i k j') := iff_F HS2.out
           have esg : sg S = -1 := by unfold sg; rw [if_neg (by omega), if_pos hS]
           rw [esg] at SC
           clear HST HS2 eG TC esg HNB
           go_wp2_with fail
           go_region_held3 (fun w' => Below wr.heap.size wr w' ∧ ∀ b o, b < wr.heap.size → w'.cell? ⟨b, o, none⟩ = wr.cell? ⟨b, o, none⟩) (first | exact keep0 _ | exact keep1 (by assumption) hb1)
            (first | (go_at_call 87; refine (SC _).mono ?_; rintro e w' ⟨rfl, hb1⟩))
           rename_i hSS
           have hbj2 := hbj.trans (hSS.1.mono hbj.size)
           clear hSS hb1 SC d0 d1 d2 d3 d4 d5
           go_wp2_with fail
           go_quiet (fail)
           go_wp2
           go_roundw
           case rel => exact ⟨j + 1, false, by omega, by go_num, rfl, HS3.out, below_drewN hbj2⟩
           case measure => simp [intOf]; omega
          ·subst hS
           have esg : sg 0 = 0 := rfl
           rw [esg] at SC
           go_wp2_with fail
           go_region_held3 (fun w' => Below wr.heap.size wr w' ∧ ∀ b o, b < wr.heap.size → w'.cell? ⟨b, o, none⟩ = wr.cell? ⟨b, o, none⟩) (first | exact keep0 _ | exact keep1 (by assumption) hb1)
            (first | (go_at_call 87; refine (SC _).mono ?_; rintro e w' ⟨rfl, hb1⟩))
           rename_i hSS
           have hbj2 := hbj.trans (hSS.1.mono hbj.size)
           replace d0 := (hSS.2 b _ gr).trans d0
           replace d1 := (hSS.2 b _ gr).trans d1
           replace d2 := (hSS.2 b _ gr).trans d2
           replace d3 := (hSS.2 b _ gr).trans d3
           replace d4 := (hSS.2 b _ gr).trans d4
           replace d5 := (hSS.2 b _ gr).trans d5
           replace gr := Nat.lt_of_lt_of_le gr hSS.1.size
           clear hSS hb1 SC
           generalize w' = X at *
           by_cases hD : D < 0
           ·have HS2 := HST (B := False) ⟨fun h => h.elim, fun h => by have q := (eG.1 h).2 (by first | trivial | rfl); omega⟩
            have HS3 : Hid (false = true ↔ ∀ j', j' < j + 1 → j' ≠ i → j' ≠ k → goodP l i k j') := iff_F HS2.out
            rw [decide_eq_true hD] at TC
            clear HST HS2 eG esg HNB hD
            go_wp2_with fail
            go_region_held3 (fun w' => Below X.heap.size X w' ∧ ∀ b o, b < X.heap.size → w'.cell? ⟨b, o, none⟩ = X.cell? ⟨b, o, none⟩) (first | exact keep0 _ | exact keep1 (by assumption) hb1)
             (first | (go_at_call 123; refine (TC _).mono ?_; rintro e w' ⟨rfl, hb1⟩))
            rename_i hSS
            have hbj3 := hbj2.trans (hSS.1.mono hbj2.size)
            clear hSS hb1 TC d0 d1 d2 d3 d4 d5
            go_wp2
            go_roundw
            case rel => exact ⟨j + 1, false, by omega, by go_num, rfl, HS3.out, hbj3⟩
            case measure => simp [intOf]; omega
           ·have HS2 := HST (B := True) ⟨fun _ => eG.2 ⟨Int.le_refl _, fun _ => by omega⟩, fun _ => trivial⟩
            have HS3 : Hid (nb = true ↔ ∀ j', j' < j + 1 → j' ≠ i → j' ≠ k → goodP l i k j') := iff_T HS2.out
            rw [decide_eq_false hD] at TC
            clear HST HS2 eG esg HNB hD
            go_wp2_with fail
            go_region_held3 (fun w' => Below X.heap.size X w' ∧ ∀ b o, b < X.heap.size → w'.cell? ⟨b, o, none⟩ = X.cell? ⟨b, o, none⟩) (first | exact keep0 _ | exact keep1 (by assumption) hb1)
             (first | (go_at_call 123; refine (TC _).mono ?_; rintro e w' ⟨rfl, hb1⟩))
            rename_i hSS
            have hbj3 := hbj2.trans (hSS.1.mono hbj2.size)
            clear hSS hb1 TC d0 d1 d2 d3 d4 d5
            go_wp2
            go_roundw
            case rel => exact ⟨j + 1, nb, by omega, by go_num, rfl, HS3.out, hbj3⟩
            case measure => simp [intOf]; omega
          ·have HS2 := HST (B := True) ⟨fun _ => eG.2 ⟨by omega, fun h => by omega⟩, fun _ => trivial⟩
           have HS3 : Hid (nb = true ↔ ∀ j', j' < j + 1 → j' ≠ i → j' ≠ k → goodP l i k j') := iff_T HS2.out
           have esg : sg S = 1 := by unfold sg; rw [if_pos hS]
           rw [esg] at SC
           clear HST HS2 eG TC esg HNB
           go_wp2_with fail
           go_region_held3 (fun w' => Below wr.heap.size wr w' ∧ ∀ b o, b < wr.heap.size → w'.cell? ⟨b, o, none⟩ = wr.cell? ⟨b, o, none⟩) (first | exact keep0 _ | exact keep1 (by assumption) hb1)
            (first | (go_at_call 87; refine (SC _).mono ?_; rintro e w' ⟨rfl, hb1⟩))
           rename_i hSS
           have hbj2 := hbj.trans (hSS.1.mono hbj.size)
           clear hSS hb1 SC d0 d1 d2 d3 d4 d5
           go_wp2_with fail
           go_quiet (fail)
           go_wp2
           go_roundw
           case rel => exact ⟨j + 1, nb, by omega, by go_num, rfl, HS3.out, below_drewN hbj2⟩
           case measure => simp [intOf]; omega
       ·have hje : j = l.length := by omega
        have hrim : nb = true ↔ rimP l i k := by
         rw [HNB.out, hje]
         exact ⟨fun h => ⟨fun e => hki e.symm, fun j' h1 h2 h3 => h j' h1 h2 h3⟩, fun h j' h1 h2 h3 => h.2 j' h1 h2 h3⟩
        have hC2 := hC.below hbj
        have hbw := hbr.trans (hbj.mono hbr.size)
        clear HNB hje hC hbr
        cases nb with
        | true =>
         obtain ⟨V2, hV2, ⟨v0, s0⟩, r0, hC3, hB3⟩ := hC2.put hil (hrim.1 rfl)
         have hb3 := hbw.trans (hB3 w.heap.size hBw)
         clear hC2 hB3 hrim
         go_wp2
         go_roundw
         case rel => exact ⟨k + 1, by omega, by go_num, hC3, hb3⟩
         case measure => simp [intOf]; omega
        | false =>
         have hC3 := hC2.skip (fun h => by have := hrim.2 h; cases this)
         clear hC2 hrim
         go_wp2
         go_roundw
         case rel => exact ⟨k + 1, by omega, by go_num, hC3, hbw⟩
         case measure => simp [intOf]; omega
    ·have hke : k = l.length := by omega
     have y5 : IntKind.i64.wrap ((i : Int) + 1) = (i : Int) + 1 := wrap_id (by omega) (by omega)
     have hD2 : RimDone wr B l (i + 1) := by rw [hke] at hC; exact hC.done
     clear hC
     go_wp2
     go_roundw
     case rel => exact ⟨i + 1, by omega, by go_num, hD2, hbr⟩
     case measure => simp [intOf]; omega
  ·have hie : i = l.length := by omega
   have hD2 : RimDone wr B l l.length := by rw [hie] at hD; exact hD
   clear hD hie
   go_wp2
   go_ret
   exact ⟨B, rfl, hD2, hBw, hbr⟩
end Go.Proofs.YtgpapegpdfonpaaGreatDoor

namespace Go.Proofs.YtgpapegpdfonpaaGreatDoor
open Go.RowKit
attribute [local go_sem ↓] Go.wp_at_zero Go.wp_at_succ
def noneGone : Array Value := Array.replicate 3600 (.bool false)
structure GoneAt (w : World) (U : Nat) (f : Nat → Nat → Bool) : Prop where
 at_ : ∃ cur : Array Value, w.heap[U]? = some (.cells cur 144) ∧ cur.size = 3600 ∧ ∀ a b, a < 60 → b < 60 → cur[a * 60 + b]? = some (.bool (f a b))
theorem GoneAt.below {w w' : World} {U : Nat} {f : Nat → Nat → Bool} (h : GoneAt w U f) (hb : Below w.heap.size w w') : GoneAt w' U f := by
 obtain ⟨cur, h1, h2, h3⟩ := h.at_
 exact ⟨cur, (hb.block U (Array.getElem?_eq_some_iff.1 h1).1).trans h1, h2, h3⟩
theorem GoneAt.cell {w : World} {U : Nat} {f : Nat → Nat → Bool} (h : GoneAt w U f) {a b : Nat} (ha : a < 60) (hb : b < 60) : w.cell? ⟨U, a * 60 + b, none⟩ = some (.bool (f a b)) ∧ w.frozen? ⟨U, a * 60 + b, none⟩ = false := by
 obtain ⟨cur, h1, h2, h3⟩ := h.at_
 exact ⟨(cell_of_heap h1 _).trans (h3 a b ha hb), frozen_of_heap h1 _⟩
set_option maxRecDepth 100000 in
theorem zero_gone : Tryz.zeroCells144 = noneGone := by kernel_rfl
theorem gone_new (W : World) : GoneAt (W.alloc (.cells Tryz.zeroCells144 144)) W.heap.size (fun _ _ => false) := by
 rw [zero_gone]
 refine ⟨noneGone, by simp only [World.alloc, Array.getElem?_push_size], by simp [noneGone], fun a b ha hb => ?_⟩
 unfold noneGone
 rw [Array.getElem?_replicate, if_pos (by omega)]
theorem GoneAt.put {w : World} {U : Nat} {f : Nat → Nat → Bool} (h : GoneAt w U f) {a b : Nat} (ha : a < 60) (hb : b < 60) :
  ∃ V, w.setCell ⟨U, a * 60 + b, none⟩ (.bool true) = V ∧ GoneAt V U (fun x y => if x = a ∧ y = b then true else f x y) ∧ V.heap.size = w.heap.size ∧ (∀ N, N ≤ U → Below N w V) ∧ (∀ x o, x ≠ U → V.cell? ⟨x, o, none⟩ = w.cell? ⟨x, o, none⟩) := by
 obtain ⟨cur, h1, h2, h3⟩ := h.at_
 have k1 := heap_setCell_same w U (a * 60 + b) cur 144 (.bool true) h1
 refine ⟨_, rfl, ⟨_, k1, by simp [h2], fun x y hx hy => ?_⟩, by simp [World.setCell], fun N hN => (Below.refl _ _).setCell (p := ⟨U, a * 60 + b, none⟩) hN _, fun x o hx => ?_⟩
 ·rw [Array.getElem?_setIfInBounds]
  by_cases e : x = a ∧ y = b
  ·obtain ⟨rfl, rfl⟩ := e
   rw [if_pos rfl, if_pos (by omega), if_pos ⟨rfl, rfl⟩]
  ·rw [if_neg (by omega), if_neg e]
   exact h3 x y hx hy
 ·have q : (w.setCell ⟨U, a * 60 + b, none⟩ (.bool true)).heap[x]? = w.heap[x]? := heap_setCell_other _ _ _ _ hx
  unfold World.cell?
  rw [q]
def edgeB (t : T3) (j a b : Nat) : Bool := nth3 t j == (a : Int) && nth3 t ((j + 1) % 3) == (b : Int)
def goesB (t : T3) (a b : Nat) : Bool := edgeB t 0 a b || edgeB t 1 a b || edgeB t 2 a b
def someB (t : T3) (k a b : Nat) : Bool := (decide (0 < k) && edgeB t 0 a b) || (decide (1 < k) && edgeB t 1 a b) || (decide (2 < k) && edgeB t 2 a b)
def goneF (ts : List T3) (i k : Nat) : Nat → Nat → Bool := fun a b => (ts.take i).any (fun t => goesB t a b) || someB (ts.getD i (0, 0, 0)) k a b
theorem goneF_zero (ts : List T3) : goneF ts 0 0 = fun _ _ => false := by funext a b; simp [goneF, someB]
theorem someB_zero (t : T3) (a b : Nat) : someB t 0 a b = false := by simp [someB]
theorem someB_three (t : T3) (a b : Nat) : someB t 3 a b = goesB t a b := by simp [someB, goesB]
theorem goneF_next (ts : List T3) {i : Nat} (hi : i < ts.length) : goneF ts i 3 = goneF ts (i + 1) 0 := by
 funext a b
 unfold goneF
 rw [someB_three, someB_zero, List.take_succ_eq_append_getElem hi, List.any_append]
 have : ts.getD i (0, 0, 0) = ts[i] := by simp [hi]
 rw [this]
 simp
theorem someB_succ (t : T3) {k : Nat} (hk : k < 3) (a b : Nat) : someB t (k + 1) a b = (someB t k a b || edgeB t k a b) := by
 have : k = 0 ∨ k = 1 ∨ k = 2 := by omega
 rcases this with rfl | rfl | rfl <;> simp [someB]
theorem goneF_put (ts : List T3) {i k x y : Nat} (hk : k < 3) (e1 : nth3 (ts.getD i (0, 0, 0)) k = (x : Int)) (e2 : nth3 (ts.getD i (0, 0, 0)) ((k + 1) % 3) = (y : Int)) :
  (fun a b => if a = x ∧ b = y then true else goneF ts i k a b) = goneF ts i (k + 1) := by
 funext a b
 unfold goneF
 rw [someB_succ _ hk]
 unfold edgeB
 rw [e1, e2]
 by_cases h : a = x ∧ b = y
 ·rw [if_pos h, h.1, h.2]; simp
 ·rw [if_neg h]
  have : ((x : Int) == (a : Int) && (y : Int) == (b : Int)) = false := by
   rw [Bool.and_eq_false_iff, beq_eq_false_iff_ne, beq_eq_false_iff_ne]
   omega
  rw [this]; simp
theorem goesB_iff (t : T3) (a b : Nat) : goesB t a b = true ↔ ∃ k, k < 3 ∧ nth3 t k = (a : Int) ∧ nth3 t ((k + 1) % 3) = (b : Int) := by
 unfold goesB edgeB
 simp only [Bool.or_eq_true, Bool.and_eq_true, beq_iff_eq]
 constructor
 ·rintro ((h | h) | h)
  ·exact ⟨0, by omega, h⟩
  ·exact ⟨1, by omega, h⟩
  ·exact ⟨2, by omega, h⟩
 ·rintro ⟨k, hk, h⟩
  have : k = 0 ∨ k = 1 ∨ k = 2 := by omega
  rcases this with rfl | rfl | rfl
  ·exact .inl (.inl h)
  ·exact .inl (.inr h)
  ·exact .inr h
theorem goneF_all (ts : List T3) (a b : Nat) : goneF ts ts.length 0 a b = true ↔ goneP ts a b := by
 unfold goneF goneP
 rw [someB_zero, Bool.or_false, List.take_length, List.any_eq_true]
 exact ⟨fun ⟨t, h1, h2⟩ => ⟨t, h1, (goesB_iff t a b).1 h2⟩, fun ⟨t, h1, h2⟩ => ⟨t, h1, (goesB_iff t a b).2 h2⟩⟩
theorem goneF_fresh {l : List Pt} {ts : List T3} (F : IsOk l ts) {i k x y : Nat} (hi : i < ts.length) (hk : k < 3) (e1 : nth3 (ts.getD i (0, 0, 0)) k = (x : Int)) (e2 : nth3 (ts.getD i (0, 0, 0)) ((k + 1) % 3) = (y : Int)) : goneF ts i k x y = false := by
 unfold goneF
 rw [Bool.or_eq_false_iff]
 have eg : ts.getD i (0, 0, 0) = ts[i] := by simp [hi]
 refine ⟨?_, ?_⟩
 ·rw [List.any_eq_false]
  intro s hs hg
  obtain ⟨m, hm, e⟩ := List.getElem_of_mem hs
  have hmi : m < i := by simp at hm; omega
  have hal := pw_at F.alg hmi hi
  have es : ts.getD m (0, 0, 0) = s := by
   rw [← e]
   simp [show m < ts.length by omega]
  rw [es] at hal
  obtain ⟨j, hj, g1, g2⟩ := (goesB_iff s x y).1 hg
  have : alongB s (ts.getD i (0, 0, 0)) = true := by
   unfold alongB
   rw [List.any_eq_true]
   refine ⟨j, List.mem_range.2 hj, ?_⟩
   rw [List.any_eq_true]
   refine ⟨k, List.mem_range.2 hk, ?_⟩
   rw [Bool.and_eq_true, beq_iff_eq, beq_iff_eq]
   exact ⟨g1.trans e1.symm, g2.trans e2.symm⟩
  rw [this] at hal; cases hal
 ·obtain ⟨⟨h0, h1, h2, _, _⟩, h5, _⟩ := F.tri _ (List.getElem_mem hi)
  rw [← eg] at h0 h1 h2 h5
  generalize ts.getD i (0, 0, 0) = t at *
  obtain ⟨p, q, r⟩ := t
  dsimp only at *
  have hqr : q ≠ r := by
   intro e
   subst e
   have : sd (pOf l p) (pOf l q) (pOf l q) = 0 := sd_B _ _
   omega
  have hk3 : k = 0 ∨ k = 1 ∨ k = 2 := by omega
  rcases hk3 with rfl | rfl | rfl <;> simp only [Nat.zero_add, Nat.reduceAdd, Nat.reduceMod, nth3_0, nth3_1, nth3_2] at e1 e2 <;> simp [someB, edgeB, nth3_0, nth3_1, nth3_2] <;> omega
end Go.Proofs.YtgpapegpdfonpaaGreatDoor

namespace Go.Proofs.YtgpapegpdfonpaaGreatDoor
open Go.RowKit
attribute [local go_sem ↓] Go.wp_at_zero Go.wp_at_succ
theorem TrisAt.nth {w : World} {g : Nat} {ts : List T3} (h : TrisAt w g ts) {i k : Nat} (hi : i < ts.length) (hk : k < 3) : w.cell? ⟨g, i * 3 + k, none⟩ = some (iv (nth3 (ts.getD i (0, 0, 0)) k)) := by
 obtain ⟨h0, h1, h2⟩ := h i hi
 have : k = 0 ∨ k = 1 ∨ k = 2 := by omega
 rcases this with rfl | rfl | rfl
 ·exact h0
 ·exact h1
 ·exact h2
theorem nth_nat {l : List Pt} {ts : List T3} (F : IsOk l ts) {i k : Nat} (hi : i < ts.length) (hk : k < 3) : ∃ x : Nat, nth3 (ts.getD i (0, 0, 0)) k = (x : Int) ∧ x < l.length := by
 obtain ⟨a, b, c, e, h1, h2, h3, h4, _⟩ := is_tri_at F hi
 rw [e]
 have : k = 0 ∨ k = 1 ∨ k = 2 := by omega
 rcases this with rfl | rfl | rfl
 ·exact ⟨a, rfl, by omega⟩
 ·exact ⟨b, rfl, h3⟩
 ·exact ⟨c, rfl, h4⟩
theorem circ_le {a b c d : Pt} (h : 0 < sd a b c) (hc : cc a b c d ≤ 0) : sg (sideN a.1 a.2 b.1 b.2 c.1 c.2) * sg (circN a.1 a.2 b.1 b.2 c.1 c.2 d.1 d.2) ≤ 0 := by
 have e1 : sg (sideN a.1 a.2 b.1 b.2 c.1 c.2) = 1 := by unfold sg; exact if_pos h
 have e2 : circN a.1 a.2 b.1 b.2 c.1 c.2 d.1 d.2 = cc a b c d := by unfold circN cc; grind
 rw [e1, e2, Int.one_mul]
 unfold sg
 rw [if_neg (by omega)]
 split <;> omega
set_option maxRecDepth 100000 in
set_option maxHeartbeats 8000000 in
theorem is_any (b off cap gt ct : Nat) (l : List Pt) (ts : List T3) (w : World) (hl : l.length ≤ 60) (hn : AllNear l) (hb : b < w.heap.size) (hp : PtsAt w b off l) (hg : gt < w.heap.size) (ht : TrisAt w gt ts) (htl : ts.length ≤ 4000) (F : IsOk l ts) :
  Calls Tryz.prog 49 #[.slice (some ⟨b, off, none⟩) l.length cap, .slice (some ⟨gt, 0, none⟩) ts.length ct] w fun e w' => e = .returned (.bool true) ∧ Below w.heap.size w w' := by
 have HF := flat_any b off cap l w hl hn hb hp
 have HP := fun W h1 h2 h3 h4 => proper_any b off cap gt ct l ts W hl hn h1 h2 h3 h4 htl F
 have HN : Hid (AllNear l) := hn
 have FO : Hid (IsOk l ts) := F
 have HNF : Hid (¬ ∀ i, 2 ≤ i → i < l.length → sd (ptAt l 0) (ptAt l 1) (ptAt l i) = 0) := fun h => by obtain ⟨i, h1, h2, h3⟩ := F.off; exact h3 (h i h1 h2)
 clear hn F
 go_enter Tryz.func49, Tryz.ntmps49
 go_upto_region 2 with (go_at_call 92; refine HF.mono ?_; rintro e w1 ⟨B, rfl, hB, hb1⟩)
 have hBf : B = false := by
  cases B with
  | false => rfl
  | true => exact absurd (hB.1 rfl) HNF.out
 subst hBf
 have hp1 := hp.below hb1 hb
 have ht1 := ht.below hb1 hg
 have hbb1 := Nat.lt_of_lt_of_le hb hb1.size
 have hgg1 := Nat.lt_of_lt_of_le hg hb1.size
 have HP1 := HP w1 hbb1 hp1 hgg1 ht1
 clear HF HP hB HNF hp1 ht1 hbb1 hgg1
 go_upto_region 7 with (go_at_call 93; refine HP1.mono ?_; rintro e w2 ⟨rfl, hb2⟩)
 have hbw2 := hb1.trans (hb2.mono hb1.size)
 clear HP1 hb1 hb2
 go_upto_block 0 with fail
 obtain ⟨W3, hW3, hG3, hb3⟩ : ∃ W3, w2.alloc (.cells Tryz.zeroCells144 144) = W3 ∧ GoneAt W3 w2.heap.size (goneF ts 0 0) ∧ Below w2.heap.size w2 W3 := ⟨_, rfl, by rw [goneF_zero]; exact gone_new w2, below1 _ _⟩
 rw [hW3]
 have hbw3 := hbw2.trans (hb3.mono hbw2.size)
 have hwU := hbw2.size
 clear hW3 hb3 hbw2
 generalize w2.heap.size = U at *
 go_cut [8] (fun _ wx => GoneAt wx U (goneF ts ts.length 0) ∧ Below w.heap.size w wx)
 case first =>
  as_aux_lemma =>
  go_wp2_with fail
  go_loopw [8] (fun s8 wr => ∃ i : Nat, i ≤ ts.length ∧ s8 = .int .i64 i ∧ GoneAt wr U (goneF ts i 0) ∧ Below w.heap.size w wr) (fun i _ => ts.length - (intOf i).toNat)
  case atStart => exact ⟨0, Nat.zero_le _, rfl, hG3, hbw3⟩
  case round =>
   clear hG3 hbw3
   obtain ⟨i, hi, rfl, hG, hbr⟩ := hrel
   by_cases hil : i < ts.length
   ·have y0 : (0 : Int) ≤ (i : Int) := by omega
    have y1 : (i : Int) < (ts.length : Int) := by omega
    go_upto_block 2 with fail
    go_cut [9] (fun _ wx => GoneAt wx U (goneF ts (i + 1) 0) ∧ Below w.heap.size w wx)
    case first =>
     as_aux_lemma =>
     go_wp2_with fail
     generalize wr = Wx at *
     go_loopw [9] (fun s9 wr => ∃ k : Nat, k ≤ 3 ∧ s9 = .int .i64 k ∧ GoneAt wr U (goneF ts i k) ∧ Below w.heap.size w wr) (fun i _ => 3 - (intOf i).toNat)
     case atStart => exact ⟨0, by omega, rfl, hG, hbr⟩
     case round =>
      clear hG hbr
      obtain ⟨k, hk, rfl, hG, hbr⟩ := hrel
      by_cases hk3 : k < 3
      ·have hm : (k + 1) % 3 < 3 := Nat.mod_lt _ (by omega)
       obtain ⟨x, ex, hx⟩ := nth_nat FO.out hil hk3
       obtain ⟨y, ey, hy⟩ := nth_nat FO.out hil hm
       have c0 := (ht.below hbr hg).nth hil hk3
       have c1 := (ht.below hbr hg).nth hil hm
       rw [ex] at c0
       rw [ey] at c1
       have hfr := goneF_fresh FO.out hil hk3 ex ey
       have hput := goneF_put ts hk3 ex ey
       have g0 := hG.cell (a := x) (b := y) (by omega) (by omega)
       rw [hfr] at g0
       obtain ⟨g1, g2⟩ := g0
       have HPUT : Hid ((fun a b => if a = x ∧ b = y then true else goneF ts i k a b) = goneF ts i (k + 1)) := hput
       clear hfr hput ex ey
       have hrem : ((k : Int) + 1).tmod 3 = (((k + 1) % 3 : Nat) : Int) := by
        rw [Int.tmod_eq_emod_of_nonneg (by omega)]; rfl
       generalize (k + 1) % 3 = m at *
       have z0 : (0 : Int) ≤ (k : Int) := by omega
       have z1 : (k : Int) < 3 := by omega
       have z2 : (0 : Int) ≤ (m : Int) := by omega
       have z3 : (m : Int) < 3 := by omega
       have z4 : (0 : Int) ≤ (x : Int) := by omega
       have z5 : (x : Int) < 60 := by omega
       have z6 : (0 : Int) ≤ (y : Int) := by omega
       have z7 : (y : Int) < 60 := by omega
       have z8 : IntKind.i64.wrap ((k : Int) + 1) = (k : Int) + 1 := wrap_id (by omega) (by omega)
       have z9 : x < 60 := by omega
       have z10 : y < 60 := by omega
       have z11 : k < 3 := hk3
       go_wp2_with fail
       go_quiet (fail)
       have hGq : GoneAt (wr.drewN nq) U (goneF ts i k) := ⟨hG.at_⟩
       have hbq : Below w.heap.size w (wr.drewN nq) := below_drewN hbr
       have g1q : (wr.drewN nq).cell? ⟨U, x * 60 + y, none⟩ = some (.bool false) := g1
       have g2q : (wr.drewN nq).frozen? ⟨U, x * 60 + y, none⟩ = false := g2
       clear c0 c1 g1 g2 hG hbr
       generalize wr.drewN nq = X at *
       obtain ⟨V, hV, hG2, _, hB2, _⟩ := hGq.put (a := x) (b := y) (by omega) (by omega)
       rw [HPUT.out] at hG2
       have hb2 := hbq.trans (hB2 w.heap.size hwU)
       clear hGq hbq hB2 HPUT
       go_wp2
       go_roundw
       case rel => exact ⟨k + 1, by omega, by go_num, hG2, hb2⟩
       case measure => simp [intOf]; omega
      ·have hke : k = 3 := by omega
       have hG2 : GoneAt wr U (goneF ts (i + 1) 0) := by rw [← goneF_next ts hil, ← hke]; exact hG
       clear hG
       go_wp2
       go_meet
       case rel => exact ⟨hG2, hbr⟩
    case rest =>
     as_aux_lemma =>
     obtain ⟨hG2, hb2⟩ := hcut
     clear hG hbr
     generalize wc = V at *
     have y4 : IntKind.i64.wrap ((i : Int) + 1) = (i : Int) + 1 := wrap_id (by omega) (by omega)
     obtain ⟨x, y, z, hxyz, hxy, hxz, hyl, hzl, hsd, hcc⟩ := is_tri_at FO.out hil
     have HCC : Hid (∀ d, d < l.length → cc (ptAt l x) (ptAt l y) (ptAt l z) (ptAt l d) ≤ 0) := hcc
     have HXYZ : Hid (ts.getD i (0, 0, 0) = ((x : Int), (y : Int), (z : Int))) := hxyz
     have HSD : Hid (0 < sd (ptAt l x) (ptAt l y) (ptAt l z)) := hsd
     clear hcc hxyz hsd
     go_wp2_with fail
     generalize wr = Wx at *
     go_loopw [12] (fun s12 wr => ∃ j : Nat, j ≤ l.length ∧ s12 = .int .i64 j ∧ GoneAt wr U (goneF ts (i + 1) 0) ∧ Below w.heap.size w wr) (fun i _ => l.length - (intOf i).toNat)
     case atStart => exact ⟨0, Nat.zero_le _, rfl, hG2, hb2⟩
     case round =>
      clear hG2 hb2
      obtain ⟨j, hj, rfl, hG, hbr⟩ := hrel
      by_cases hjl : j < l.length
      ·obtain ⟨t0, t1, t2⟩ := (ht.below hbr hg) i hil
       rw [HXYZ.out] at t0 t1 t2
       dsimp only at t0 t1 t2
       have hpr := hp.below hbr hb
       obtain ⟨d0, d1⟩ := hpr x (by omega)
       obtain ⟨d2, d3⟩ := hpr y hyl
       obtain ⟨d4, d5⟩ := hpr z hzl
       obtain ⟨d6, d7⟩ := hpr j hjl
       have nA : Near (l.getD x (0, 0)).1 (l.getD x (0, 0)).2 := HN.out x (by omega)
       have nB : Near (l.getD y (0, 0)).1 (l.getD y (0, 0)).2 := HN.out y hyl
       have nC : Near (l.getD z (0, 0)).1 (l.getD z (0, 0)).2 := HN.out z hzl
       have nD : Near (l.getD j (0, 0)).1 (l.getD j (0, 0)).2 := HN.out j hjl
       have CC := fun W => rcircle_any _ _ _ _ _ _ _ _ W nA nB nC nD
       have hle : sg (sideN (l.getD x (0, 0)).1 (l.getD x (0, 0)).2 (l.getD y (0, 0)).1 (l.getD y (0, 0)).2 (l.getD z (0, 0)).1 (l.getD z (0, 0)).2) * sg (circN (l.getD x (0, 0)).1 (l.getD x (0, 0)).2 (l.getD y (0, 0)).1 (l.getD y (0, 0)).2 (l.getD z (0, 0)).1 (l.getD z (0, 0)).2 (l.getD j (0, 0)).1 (l.getD j (0, 0)).2) ≤ 0 := circ_le (a := ptAt l x) (b := ptAt l y) (c := ptAt l z) (d := ptAt l j) HSD.out (HCC.out j hjl)
       have gr : b < wr.heap.size := Nat.lt_of_lt_of_le hb hbr.size
       have gtr : gt < wr.heap.size := Nat.lt_of_lt_of_le hg hbr.size
       clear nA nB nC nD hpr
       generalize sg (sideN (l.getD x (0, 0)).1 (l.getD x (0, 0)).2 (l.getD y (0, 0)).1 (l.getD y (0, 0)).2 (l.getD z (0, 0)).1 (l.getD z (0, 0)).2) * sg (circN (l.getD x (0, 0)).1 (l.getD x (0, 0)).2 (l.getD y (0, 0)).1 (l.getD y (0, 0)).2 (l.getD z (0, 0)).1 (l.getD z (0, 0)).2 (l.getD j (0, 0)).1 (l.getD j (0, 0)).2) = Q at *
       generalize (l.getD x (0, 0)).1 = ax at *
       generalize (l.getD x (0, 0)).2 = ay at *
       generalize (l.getD y (0, 0)).1 = bx at *
       generalize (l.getD y (0, 0)).2 = by2 at *
       generalize (l.getD z (0, 0)).1 = cx at *
       generalize (l.getD z (0, 0)).2 = cy at *
       generalize (l.getD j (0, 0)).1 = dx at *
       generalize (l.getD j (0, 0)).2 = dy at *
       have z0 : (0 : Int) ≤ (x : Int) := by omega
       have z1 : (x : Int) < (l.length : Int) := by omega
       have z2 : (0 : Int) ≤ (y : Int) := by omega
       have z3 : (y : Int) < (l.length : Int) := by omega
       have z4 : (0 : Int) ≤ (z : Int) := by omega
       have z5 : (z : Int) < (l.length : Int) := by omega
       have z6 : (0 : Int) ≤ (j : Int) := by omega
       have z7 : (j : Int) < (l.length : Int) := by omega
       have z8 : IntKind.i64.wrap ((j : Int) + 1) = (j : Int) + 1 := wrap_id (by omega) (by omega)
       have z9 : decide (0 < Q) = false := decide_eq_false (by omega)
       go_wp2_with fail
       go_region_held3 (fun w' => Below wr.heap.size wr w' ∧ ∀ b o, b < wr.heap.size → w'.cell? ⟨b, o, none⟩ = wr.cell? ⟨b, o, none⟩) (first | exact keep0 _ | exact keep1 (by assumption) hb1)
        (first | (go_at_call 88; refine (CC _).mono ?_; rintro e w' ⟨rfl, hb1⟩))
       rename_i hSS
       have hbr2 := hbr.trans (hSS.1.mono hbr.size)
       have hG2 := hG.below hSS.1
       clear hSS hb1 CC d0 d1 d2 d3 d4 d5 d6 d7 t0 t1 t2 hG
       go_wp2
       go_roundw
       case rel => exact ⟨j + 1, by omega, by go_num, hG2, hbr2⟩
       case measure => simp [intOf]; omega
      ·go_wp2
       go_roundw
       case rel => exact ⟨i + 1, by omega, by go_num, hG, hbr⟩
       case measure => simp [intOf]; omega
   ·have hie : i = ts.length := by omega
    have hG2 : GoneAt wr U (goneF ts ts.length 0) := by rw [← hie]; exact hG
    clear hG hie
    go_wp2
    go_meet
    case rel => exact ⟨hG2, hbr⟩
 case rest =>
  as_aux_lemma =>
  obtain ⟨hG, hbx⟩ := hcut
  clear hG3 hbw3
  generalize wc = V at *
  have RM := rim_any b off cap l V hl HN.out (Nat.lt_of_lt_of_le hb hbx.size) (hp.below hbx hb)
  go_upto_block 6 with (go_at_call 94; refine RM.mono ?_; rintro e w4 ⟨B, rfl, hD, hBV, hb4⟩)
  have hG4 := hG.below hb4
  have hbw4 := hbx.trans (hb4.mono hbx.size)
  have hnx : ∀ a, a < l.length → ∃ v, w4.cell? ⟨B, a, none⟩ = some (iv v) ∧ ∀ c : Nat, c < l.length → (v = (c : Int) ↔ rimP l a c) := by
   intro a ha
   obtain ⟨cur, h1, h2, h3⟩ := hD.at_
   obtain ⟨v, e, s⟩ := h3 a ha
   refine ⟨v, (cell_of_heap h1 a).trans e, fun c hc => ?_⟩
   rcases s with ⟨j, hj, ev, hr⟩ | ⟨ev, hr⟩
   ·constructor
    ·intro e'
     have : j = c := by omega
     subst this; exact hr
    ·intro hr'
     have := FO.out.uniq a j c ha hj hc hr hr'
     omega
   ·exact ⟨fun e' => by omega, fun h => absurd h (hr c hc)⟩
  have hgo : ∀ a c : Nat, a < l.length → c < l.length → w4.cell? ⟨U, a * 60 + c, none⟩ = some (.bool (goneF ts ts.length 0 a c)) := fun a c ha hc => (hG4.cell (by omega) (by omega)).1
  have HNX : Hid (∀ a, a < l.length → ∃ v, w4.cell? ⟨B, a, none⟩ = some (iv v) ∧ ∀ c : Nat, c < l.length → (v = (c : Int) ↔ rimP l a c)) := hnx
  have HGO : Hid (∀ a c : Nat, a < l.length → c < l.length → w4.cell? ⟨U, a * 60 + c, none⟩ = some (.bool (goneF ts ts.length 0 a c))) := hgo
  clear RM hG hbx hD hBV hb4 hG4 hnx hgo
  go_wp2_with fail
  go_loopw [14] (fun s14 wr => ∃ a : Nat, a ≤ l.length ∧ s14 = .int .i64 a ∧ ∃ n, wr = w4.drewN n) (fun i _ => l.length - (intOf i).toNat)
  case atStart => exact ⟨0, Nat.zero_le _, rfl, 0, rfl⟩
  case round =>
   obtain ⟨a, ha, rfl, n0, rfl⟩ := hrel
   by_cases hal : a < l.length
   ·have y0 : (0 : Int) ≤ (a : Int) := by omega
    have y1 : (a : Int) < (l.length : Int) := by omega
    have y2 : (a : Int) < 60 := by omega
    have y3 : IntKind.i64.wrap ((a : Int) + 1) = (a : Int) + 1 := wrap_id (by omega) (by omega)
    go_wp2_with fail
    go_loopw [15] (fun s15 wr => ∃ c : Nat, c ≤ l.length ∧ s15 = .int .i64 c ∧ ∃ n, wr = w4.drewN n) (fun i _ => l.length - (intOf i).toNat)
    case atStart => exact ⟨0, Nat.zero_le _, rfl, _, rfl⟩
    case round =>
     obtain ⟨c, hc, rfl, n1, rfl⟩ := hrel
     by_cases hcl : c < l.length
     ·obtain ⟨v, c0, hv⟩ := HNX.out a hal
      obtain ⟨u, c1, hu⟩ := HNX.out c hcl
      have g0 := HGO.out a c hal hcl
      have g1 := HGO.out c a hcl hal
      have q0 := goneF_all ts a c
      have q1 := goneF_all ts c a
      have R1 := FO.out.rim a c hal hcl
      have R2 := FO.out.rim c a hcl hal
      have R3 := FO.out.mate a c hal hcl
      have v1 := hv c hcl
      have u1 := hu a hal
      clear hv hu
      generalize goneF ts ts.length 0 a c = ga at *
      generalize goneF ts ts.length 0 c a = gb at *
      have z0 : (0 : Int) ≤ (c : Int) := by omega
      have z1 : (c : Int) < (l.length : Int) := by omega
      have z2 : (c : Int) < 60 := by omega
      have z3 : IntKind.i64.wrap ((c : Int) + 1) = (c : Int) + 1 := wrap_id (by omega) (by omega)
      by_cases hv : v = (c : Int)
      ·have hr := R1 (v1.1 hv)
       have ega : ga = true := q0.2 hr.1
       have egb : gb = false := by
        cases gb with
        | false => rfl
        | true => exact absurd (q1.1 rfl) hr.2
       subst ega egb hv
       clear q0 q1 R1 R2 R3 v1 u1 hr
       go_wp2_with fail
       go_quiet (fail)
       go_wp2
       go_roundw
       case rel => exact ⟨c + 1, by omega, by go_num, _, by first | rfl | simp [World.drewN_drewN]⟩
       case measure => simp [intOf]; omega
      ·have ev : (v == (c : Int)) = false := beq_eq_false_iff_ne.2 hv
       by_cases hu : u = (a : Int)
       ·have eu : (u != (a : Int)) = false := by rw [hu]; simp
        clear q0 q1 R1 R2 R3 v1 u1 hv hu
        go_wp2_with fail
        go_quiet (fail)
        go_wp2
        go_roundw
        case rel => exact ⟨c + 1, by omega, by go_num, _, by first | rfl | simp [World.drewN_drewN]⟩
        case measure => simp [intOf]; omega
       ·have eu : (u != (a : Int)) = true := by simpa using hu
        have hm := R3 (fun h => hv (v1.2 h)) (fun h => hu (u1.2 h))
        have eg : ga = gb := by
         cases ga <;> cases gb
         ·rfl
         ·exact absurd (q0.2 (hm.2 (q1.1 rfl))) (by simp)
         ·exact absurd (q1.2 (hm.1 (q0.1 rfl))) (by simp)
         ·rfl
        subst eg
        have en : (ga != ga) = false := by simp
        clear q0 q1 R1 R2 R3 v1 u1 hv hu hm
        go_wp2_with fail
        go_quiet (fail)
        go_wp2
        go_roundw
        case rel => exact ⟨c + 1, by omega, by go_num, _, by first | rfl | simp [World.drewN_drewN]⟩
        case measure => simp [intOf]; omega
     ·go_wp2
      go_roundw
      case rel => exact ⟨a + 1, by omega, by go_num, _, rfl⟩
      case measure => simp [intOf]; omega
   ·go_wp2
    go_ret
    exact ⟨rfl, below_drewN hbw4⟩
end Go.Proofs.YtgpapegpdfonpaaGreatDoor
