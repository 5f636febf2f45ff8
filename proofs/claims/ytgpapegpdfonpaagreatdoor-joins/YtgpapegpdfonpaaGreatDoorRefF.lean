/-
  The document's model: Rim.
-/
import Derived.Test.YtgpapegpdfonpaaGreatDoorRefE
namespace Go.Proofs.YtgpapegpdfonpaaGreatDoor
set_option linter.unusedVariables false
set_option linter.unusedSimpArgs false
open Go.RowKit

/-- among the first k the last one that is next on the rim behind i, or -1 -/
def soFar (l : List Pt) (i k : Nat) (v : Int) : Prop := (∃ j, j < k ∧ v = (j : Int) ∧ rimP l i j) ∨ (v = -1 ∧ ∀ j, j < k → ¬ rimP l i j)
def goodP (l : List Pt) (i k j : Nat) : Prop := 0 ≤ sd (ptAt l i) (ptAt l k) (ptAt l j) ∧ (sd (ptAt l i) (ptAt l k) (ptAt l j) = 0 → 0 ≤ dt (ptAt l i) (ptAt l k) (ptAt l j))
theorem soFar_put {l : List Pt} {i k : Nat} (h : rimP l i k) : soFar l i (k + 1) (k : Int) := .inl ⟨k, by omega, rfl, h⟩
theorem soFar_skip {l : List Pt} {i k : Nat} {v : Int} (hs : soFar l i k v) (h : ¬ rimP l i k) : soFar l i (k + 1) v := by
  rcases hs with ⟨j, hj, e, hr⟩ | ⟨e, hr⟩
  · exact .inl ⟨j, by omega, e, hr⟩
  · refine .inr ⟨e, fun j hj => ?_⟩
    by_cases ej : j = k
    · subst ej; exact h
    · exact hr j (by omega)

theorem iff_T {p q : Prop} (h : (p ∧ True) ↔ q) : p ↔ q := ⟨fun hp => h.1 ⟨hp, trivial⟩, fun hq => (h.2 hq).1⟩
theorem iff_F {p q : Prop} (h : (p ∧ False) ↔ q) : (false = true ↔ q) := ⟨fun e => (by cases e), fun hq => (h.2 hq).2.elim⟩

structure RimDone (w : World) (B : Nat) (l : List Pt) (i : Nat) : Prop where
  at_ : ∃ cur : Array Value, w.heap[B]? = some (.cells cur 3) ∧ cur.size = l.length ∧ ∀ j, j < i → ∃ v, cur[j]? = some (iv v) ∧ soFar l j l.length v
structure RimCur (w : World) (B : Nat) (l : List Pt) (i k : Nat) : Prop where
  at_ : ∃ cur : Array Value, w.heap[B]? = some (.cells cur 3) ∧ cur.size = l.length ∧ (∀ j, j < i → ∃ v, cur[j]? = some (iv v) ∧ soFar l j l.length v) ∧ ∃ v, cur[i]? = some (iv v) ∧ soFar l i k v
theorem RimCur.below {w w' : World} {B i k : Nat} {l : List Pt} (h : RimCur w B l i k) (hb : Below w.heap.size w w') : RimCur w' B l i k := by
  obtain ⟨cur, h1, h2, h3⟩ := h.at_
  exact ⟨cur, (hb.block B (Array.getElem?_eq_some_iff.1 h1).1).trans h1, h2, h3⟩
theorem RimCur.lt {w : World} {B i k : Nat} {l : List Pt} (h : RimCur w B l i k) : B < w.heap.size := by
  obtain ⟨cur, h1, _⟩ := h.at_
  exact (Array.getElem?_eq_some_iff.1 h1).1
theorem RimCur.skip {w : World} {B i k : Nat} {l : List Pt} (h : RimCur w B l i k) (hr : ¬ rimP l i k) : RimCur w B l i (k + 1) := by
  obtain ⟨cur, h1, h2, h3, v, h4, h5⟩ := h.at_
  exact ⟨cur, h1, h2, h3, v, h4, soFar_skip h5 hr⟩
theorem RimCur.done {w : World} {B i : Nat} {l : List Pt} (h : RimCur w B l i l.length) : RimDone w B l (i + 1) := by
  obtain ⟨cur, h1, h2, h3, v, h4, h5⟩ := h.at_
  refine ⟨cur, h1, h2, fun j hj => ?_⟩
  by_cases e : j = i
  · subst e; exact ⟨v, h4, h5⟩
  · exact h3 j (by omega)
theorem RimDone.start {w : World} {B i : Nat} {l : List Pt} (h : RimDone w B l i) (hi : i < l.length) :
    ∃ V, w.setCell ⟨B, i, none⟩ (iv (-1)) = V ∧ (∃ v, w.cell? ⟨B, i, none⟩ = some v) ∧ w.frozen? ⟨B, i, none⟩ = false ∧ RimCur V B l i 0 ∧ ∀ N, N ≤ B → Below N w V := by
  obtain ⟨cur, h1, h2, h3⟩ := h.at_
  have k1 := heap_setCell_same w B i cur 3 (iv (-1)) h1
  refine ⟨_, rfl, ⟨_, (cell_of_heap h1 i).trans (Array.getElem?_eq_getElem (by omega))⟩, frozen_of_heap h1 i, ⟨_, k1, by simp [h2], ?_, -1, ?_, .inr ⟨rfl, fun j hj => by omega⟩⟩, fun N hN => (Below.refl _ _).setCell (p := ⟨B, i, none⟩) hN _⟩
  · intro j hj
    obtain ⟨v, e, s⟩ := h3 j hj
    refine ⟨v, ?_, s⟩
    rw [Array.getElem?_setIfInBounds, if_neg (by omega)]; exact e
  · rw [Array.getElem?_setIfInBounds, if_pos rfl, if_pos (by omega)]
theorem RimCur.put {w : World} {B i k : Nat} {l : List Pt} (h : RimCur w B l i k) (hi : i < l.length) (hr : rimP l i k) :
    ∃ V, w.setCell ⟨B, i, none⟩ (iv k) = V ∧ (∃ v, w.cell? ⟨B, i, none⟩ = some v) ∧ w.frozen? ⟨B, i, none⟩ = false ∧ RimCur V B l i (k + 1) ∧ ∀ N, N ≤ B → Below N w V := by
  obtain ⟨cur, h1, h2, h3, v, h4, h5⟩ := h.at_
  have k1 := heap_setCell_same w B i cur 3 (iv k) h1
  refine ⟨_, rfl, ⟨_, (cell_of_heap h1 i).trans h4⟩, frozen_of_heap h1 i, ⟨_, k1, by simp [h2], ?_, k, ?_, soFar_put hr⟩, fun N hN => (Below.refl _ _).setCell (p := ⟨B, i, none⟩) hN _⟩
  · intro j hj
    obtain ⟨v, e, s⟩ := h3 j hj
    refine ⟨v, ?_, s⟩
    rw [Array.getElem?_setIfInBounds, if_neg (by omega)]; exact e
  · rw [Array.getElem?_setIfInBounds, if_pos rfl, if_pos (by omega)]
theorem rim_new (W : World) (l : List Pt) : RimDone (W.alloc (.cells (madeCells #[.int .i64 0] l.length) 3)) W.heap.size l 0 := by
  refine ⟨madeCells #[.int .i64 0] l.length, by simp only [World.alloc, Array.getElem?_push_size], ?_, fun j hj => by omega⟩
  rw [upTo_zero]
  simp [upTo]

set_option maxRecDepth 100000 in
set_option maxHeartbeats 8000000 in
theorem rim_any (b off cap : Nat) (l : List Pt) (w : World) (hl : l.length ≤ 60) (hn : AllNear l) (hb : b < w.heap.size) (hp : PtsAt w b off l) :
    Calls Tryz.prog 94 #[.slice (some ⟨b, off, none⟩) l.length cap] w fun e w' =>
      ∃ B, e = .returned (.slice (some ⟨B, 0, none⟩) l.length l.length) ∧ RimDone w' B l l.length ∧ w.heap.size ≤ B ∧ Below w.heap.size w w' := by
  have hmk := run_make_row' (P := Tryz.prog) 26 3 (.int .i64 0) 8 Tryz.underlying26 info3 rfl .i64 .i64 l.length (by omega) (by omega)
  have HN : Hid (AllNear l) := hn
  clear hn
  go_enter Tryz.func94, Tryz.ntmps94
  go_wp2
  obtain ⟨W0, hW0, hD0, hb0⟩ : ∃ W0, w.alloc (.cells (madeCells #[.int .i64 0] l.length) 3) = W0 ∧ RimDone W0 w.heap.size l 0 ∧ Below w.heap.size w W0 := ⟨_, rfl, rim_new w l, below1 _ _⟩
  rw [hW0]
  clear hW0 hmk
  obtain ⟨B, hB⟩ : ∃ B, w.heap.size = B := ⟨_, rfl⟩
  rw [hB] at hD0
  rw [hB]
  have hBw : w.heap.size ≤ B := by omega
  have HBE : Hid (w.heap.size = B) := hB
  clear hB
  go_loopw [4] (fun s4 wr => ∃ i : Nat, i ≤ l.length ∧ s4 = .int .i64 i ∧ RimDone wr B l i ∧ Below w.heap.size w wr) (fun i _ => l.length - (intOf i).toNat)
  case atStart => exact ⟨0, Nat.zero_le _, rfl, hD0, hb0⟩
  case round =>
    clear hD0 hb0
    obtain ⟨i, hi, rfl, hD, hbr⟩ := hrel
    by_cases hil : i < l.length
    · obtain ⟨V1, hV1, ⟨v0, s0⟩, r0, hC1, hB1⟩ := hD.start hil
      have hbV1 := hbr.trans (hB1 w.heap.size hBw)
      have y0 : (0 : Int) ≤ (i : Int) := by omega
      have y1 : (i : Int) < (l.length : Int) := by omega
      clear hD hB1 hbr
      go_wp2_with fail
      clear hV1 s0 r0
      generalize wr = Wx at *
      go_loopw [5] (fun s5 wr => ∃ k : Nat, k ≤ l.length ∧ s5 = .int .i64 k ∧ RimCur wr B l i k ∧ Below w.heap.size w wr) (fun i _ => l.length - (intOf i).toNat)
      case atStart => exact ⟨0, Nat.zero_le _, rfl, hC1, hbV1⟩
      case round =>
        clear hC1 hbV1
        obtain ⟨k, hk, rfl, hC, hbr⟩ := hrel
        by_cases hkl : k < l.length
        · have y4 : IntKind.i64.wrap ((k : Int) + 1) = (k : Int) + 1 := wrap_id (by omega) (by omega)
          by_cases hki : k = i
          · have e0 : ((k : Int) == (i : Int)) = true := by rw [hki]; simp
            have hnr : ¬ rimP l i k := fun h => h.1 hki.symm
            have hC2 := hC.skip hnr
            clear hC hki hnr
            go_wp2
            go_roundw
            case rel => exact ⟨k + 1, by omega, by go_num, hC2, hbr⟩
            case measure => simp [intOf]; omega
          · have e0 : ((k : Int) == (i : Int)) = false := beq_eq_false_iff_ne.2 (by omega)
            have y2 : (0 : Int) ≤ (k : Int) := by omega
            have y3 : (k : Int) < (l.length : Int) := by omega
            go_wp2_with fail
            generalize wr = V at *
            go_loopw [6, 7] (fun s6 s7 wx => ∃ (j : Nat) (nb : Bool), j ≤ l.length ∧ s7 = .int .i64 j ∧ s6 = .bool nb ∧ (nb = true ↔ ∀ j', j' < j → j' ≠ i → j' ≠ k → goodP l i k j') ∧ Below V.heap.size V wx) (fun _ i _ => l.length - (intOf i).toNat)
            case atStart => exact ⟨0, true, Nat.zero_le _, rfl, rfl, ⟨fun _ j' h => by omega, fun _ => rfl⟩, Below.refl _ _⟩
            case round =>
              obtain ⟨j, nb, hj, rfl, rfl, hnb, hbj⟩ := hrel
              have HNB : Hid (nb = true ↔ ∀ j', j' < j → j' ≠ i → j' ≠ k → goodP l i k j') := hnb
              clear hnb
              by_cases hjl : j < l.length
              · have y5 : IntKind.i64.wrap ((j : Int) + 1) = (j : Int) + 1 := wrap_id (by omega) (by omega)
                have step : ∀ {B : Prop}, (B ↔ (j ≠ i → j ≠ k → goodP l i k j)) → ((nb = true ∧ B) ↔ ∀ j', j' < j + 1 → j' ≠ i → j' ≠ k → goodP l i k j') := by
                  intro B hB
                  rw [HNB.out, hB]
                  constructor
                  · rintro ⟨h1, h2⟩ j' hj' n1 n2
                    by_cases e : j' = j
                    · subst e; exact h2 n1 n2
                    · exact h1 j' (by omega) n1 n2
                  · exact fun h => ⟨fun j' hj' n1 n2 => h j' (by omega) n1 n2, fun n1 n2 => h j (by omega) n1 n2⟩
                by_cases hji : j = i
                · have e1 : ((j : Int) == (i : Int)) = true := by rw [hji]; simp
                  have HST : Hid (nb = true ↔ ∀ j', j' < j + 1 → j' ≠ i → j' ≠ k → goodP l i k j') := by
                    exact iff_T (step (B := True) ⟨fun _ h => absurd hji h, fun _ => trivial⟩)
                  clear step hji HNB
                  go_wp2
                  go_roundw
                  case rel => exact ⟨j + 1, nb, by omega, by go_num, rfl, HST.out, hbj⟩
                  case measure => simp [intOf]; omega
                · have e1 : ((j : Int) == (i : Int)) = false := beq_eq_false_iff_ne.2 (by omega)
                  by_cases hjk : j = k
                  · have e2 : ((j : Int) == (k : Int)) = true := by rw [hjk]; simp
                    have HST : Hid (nb = true ↔ ∀ j', j' < j + 1 → j' ≠ i → j' ≠ k → goodP l i k j') := by
                      exact iff_T (step (B := True) ⟨fun _ _ h => absurd hjk h, fun _ => trivial⟩)
                    clear step hji hjk HNB
                    go_wp2
                    go_roundw
                    case rel => exact ⟨j + 1, nb, by omega, by go_num, rfl, HST.out, hbj⟩
                    case measure => simp [intOf]; omega
                  · have e2 : ((j : Int) == (k : Int)) = false := beq_eq_false_iff_ne.2 (by omega)
                    have hbw := hbr.trans (hbj.mono hbr.size)
                    have hpr := hp.below hbw hb
                    obtain ⟨d0, d1⟩ := hpr i hil
                    obtain ⟨d2, d3⟩ := hpr k hkl
                    obtain ⟨d4, d5⟩ := hpr j hjl
                    have nA : Near (l.getD i (0, 0)).1 (l.getD i (0, 0)).2 := HN.out i hil
                    have nB : Near (l.getD k (0, 0)).1 (l.getD k (0, 0)).2 := HN.out k hkl
                    have nC : Near (l.getD j (0, 0)).1 (l.getD j (0, 0)).2 := HN.out j hjl
                    have SC := fun W => rside_any _ _ _ _ _ _ W nA nB nC
                    have TC := fun W => between_any _ _ _ _ _ _ W nA nB nC
                    have HST : ∀ {B : Prop}, (B ↔ goodP l i k j) → Hid ((nb = true ∧ B) ↔ ∀ j', j' < j + 1 → j' ≠ i → j' ≠ k → goodP l i k j') := fun hB =>
                      step ⟨fun h _ _ => hB.1 h, fun h => hB.2 (h hji hjk)⟩
                    have eG : goodP l i k j ↔ (0 ≤ sideN (l.getD i (0, 0)).1 (l.getD i (0, 0)).2 (l.getD k (0, 0)).1 (l.getD k (0, 0)).2 (l.getD j (0, 0)).1 (l.getD j (0, 0)).2 ∧ (sideN (l.getD i (0, 0)).1 (l.getD i (0, 0)).2 (l.getD k (0, 0)).1 (l.getD k (0, 0)).2 (l.getD j (0, 0)).1 (l.getD j (0, 0)).2 = 0 → 0 ≤ dt ((l.getD i (0, 0)).1, (l.getD i (0, 0)).2) ((l.getD k (0, 0)).1, (l.getD k (0, 0)).2) ((l.getD j (0, 0)).1, (l.getD j (0, 0)).2))) := Iff.rfl
                    have gr : b < wr.heap.size := Nat.lt_of_lt_of_le hb hbw.size
                    clear nA nB nC hpr hji hjk step
                    generalize sideN (l.getD i (0, 0)).1 (l.getD i (0, 0)).2 (l.getD k (0, 0)).1 (l.getD k (0, 0)).2 (l.getD j (0, 0)).1 (l.getD j (0, 0)).2 = S at *
                    generalize dt ((l.getD i (0, 0)).1, (l.getD i (0, 0)).2) ((l.getD k (0, 0)).1, (l.getD k (0, 0)).2) ((l.getD j (0, 0)).1, (l.getD j (0, 0)).2) = D at *
                    generalize (l.getD i (0, 0)).1 = ax at *
                    generalize (l.getD i (0, 0)).2 = ay at *
                    generalize (l.getD k (0, 0)).1 = bx at *
                    generalize (l.getD k (0, 0)).2 = by2 at *
                    generalize (l.getD j (0, 0)).1 = cx at *
                    generalize (l.getD j (0, 0)).2 = cy at *
                    have y6 : (0 : Int) ≤ (j : Int) := by omega
                    have y7 : (j : Int) < (l.length : Int) := by omega
                    rcases Int.lt_trichotomy S 0 with hS | hS | hS
                    · have HS2 := HST (B := False) ⟨fun h => h.elim, fun h => by have := (eG.1 h).1; omega⟩
                      have HS3 : Hid (false = true ↔ ∀ j', j' < j + 1 → j' ≠ i → j' ≠ k → goodP l i k j') := iff_F HS2.out
                      have esg : sg S = -1 := by unfold sg; rw [if_neg (by omega), if_pos hS]
                      rw [esg] at SC
                      clear HST HS2 eG TC esg HNB
                      go_wp2_with fail
                      go_region_held3 (fun w' => Below wr.heap.size wr w' ∧ ∀ b o, b < wr.heap.size → w'.cell? ⟨b, o, none⟩ = wr.cell? ⟨b, o, none⟩) (first | exact keep0 _ | exact keep1 (by assumption) hb1)
                        (first | (go_at_call 87; refine (SC _).mono ?_; rintro e w' ⟨rfl, hb1⟩))
                      rename_i hSS
                      have hbj2 := hbj.trans (hSS.1.mono hbj.size)
                      clear hSS hb1 SC d0 d1 d2 d3 d4 d5
                      go_wp2_with fail
                      go_quiet (fail)
                      go_wp2
                      go_roundw
                      case rel => exact ⟨j + 1, false, by omega, by go_num, rfl, HS3.out, below_drewN hbj2⟩
                      case measure => simp [intOf]; omega
                    · subst hS
                      have esg : sg 0 = 0 := rfl
                      rw [esg] at SC
                      go_wp2_with fail
                      go_region_held3 (fun w' => Below wr.heap.size wr w' ∧ ∀ b o, b < wr.heap.size → w'.cell? ⟨b, o, none⟩ = wr.cell? ⟨b, o, none⟩) (first | exact keep0 _ | exact keep1 (by assumption) hb1)
                        (first | (go_at_call 87; refine (SC _).mono ?_; rintro e w' ⟨rfl, hb1⟩))
                      rename_i hSS
                      have hbj2 := hbj.trans (hSS.1.mono hbj.size)
                      replace d0 := (hSS.2 b _ gr).trans d0
                      replace d1 := (hSS.2 b _ gr).trans d1
                      replace d2 := (hSS.2 b _ gr).trans d2
                      replace d3 := (hSS.2 b _ gr).trans d3
                      replace d4 := (hSS.2 b _ gr).trans d4
                      replace d5 := (hSS.2 b _ gr).trans d5
                      replace gr := Nat.lt_of_lt_of_le gr hSS.1.size
                      clear hSS hb1 SC
                      generalize w' = X at *
                      by_cases hD : D < 0
                      · have HS2 := HST (B := False) ⟨fun h => h.elim, fun h => by have q := (eG.1 h).2 (by first | trivial | rfl); omega⟩
                        have HS3 : Hid (false = true ↔ ∀ j', j' < j + 1 → j' ≠ i → j' ≠ k → goodP l i k j') := iff_F HS2.out
                        rw [decide_eq_true hD] at TC
                        clear HST HS2 eG esg HNB hD
                        go_wp2_with fail
                        go_region_held3 (fun w' => Below X.heap.size X w' ∧ ∀ b o, b < X.heap.size → w'.cell? ⟨b, o, none⟩ = X.cell? ⟨b, o, none⟩) (first | exact keep0 _ | exact keep1 (by assumption) hb1)
                          (first | (go_at_call 123; refine (TC _).mono ?_; rintro e w' ⟨rfl, hb1⟩))
                        rename_i hSS
                        have hbj3 := hbj2.trans (hSS.1.mono hbj2.size)
                        clear hSS hb1 TC d0 d1 d2 d3 d4 d5
                        go_wp2
                        go_roundw
                        case rel => exact ⟨j + 1, false, by omega, by go_num, rfl, HS3.out, hbj3⟩
                        case measure => simp [intOf]; omega
                      · have HS2 := HST (B := True) ⟨fun _ => eG.2 ⟨Int.le_refl _, fun _ => by omega⟩, fun _ => trivial⟩
                        have HS3 : Hid (nb = true ↔ ∀ j', j' < j + 1 → j' ≠ i → j' ≠ k → goodP l i k j') := iff_T HS2.out
                        rw [decide_eq_false hD] at TC
                        clear HST HS2 eG esg HNB hD
                        go_wp2_with fail
                        go_region_held3 (fun w' => Below X.heap.size X w' ∧ ∀ b o, b < X.heap.size → w'.cell? ⟨b, o, none⟩ = X.cell? ⟨b, o, none⟩) (first | exact keep0 _ | exact keep1 (by assumption) hb1)
                          (first | (go_at_call 123; refine (TC _).mono ?_; rintro e w' ⟨rfl, hb1⟩))
                        rename_i hSS
                        have hbj3 := hbj2.trans (hSS.1.mono hbj2.size)
                        clear hSS hb1 TC d0 d1 d2 d3 d4 d5
                        go_wp2
                        go_roundw
                        case rel => exact ⟨j + 1, nb, by omega, by go_num, rfl, HS3.out, hbj3⟩
                        case measure => simp [intOf]; omega
                    · have HS2 := HST (B := True) ⟨fun _ => eG.2 ⟨by omega, fun h => by omega⟩, fun _ => trivial⟩
                      have HS3 : Hid (nb = true ↔ ∀ j', j' < j + 1 → j' ≠ i → j' ≠ k → goodP l i k j') := iff_T HS2.out
                      have esg : sg S = 1 := by unfold sg; rw [if_pos hS]
                      rw [esg] at SC
                      clear HST HS2 eG TC esg HNB
                      go_wp2_with fail
                      go_region_held3 (fun w' => Below wr.heap.size wr w' ∧ ∀ b o, b < wr.heap.size → w'.cell? ⟨b, o, none⟩ = wr.cell? ⟨b, o, none⟩) (first | exact keep0 _ | exact keep1 (by assumption) hb1)
                        (first | (go_at_call 87; refine (SC _).mono ?_; rintro e w' ⟨rfl, hb1⟩))
                      rename_i hSS
                      have hbj2 := hbj.trans (hSS.1.mono hbj.size)
                      clear hSS hb1 SC d0 d1 d2 d3 d4 d5
                      go_wp2_with fail
                      go_quiet (fail)
                      go_wp2
                      go_roundw
                      case rel => exact ⟨j + 1, nb, by omega, by go_num, rfl, HS3.out, below_drewN hbj2⟩
                      case measure => simp [intOf]; omega
              · have hje : j = l.length := by omega
                have hrim : nb = true ↔ rimP l i k := by
                  rw [HNB.out, hje]
                  exact ⟨fun h => ⟨fun e => hki e.symm, fun j' h1 h2 h3 => h j' h1 h2 h3⟩, fun h j' h1 h2 h3 => h.2 j' h1 h2 h3⟩
                have hC2 := hC.below hbj
                have hbw := hbr.trans (hbj.mono hbr.size)
                clear HNB hje hC hbr
                cases nb with
                | true =>
                  obtain ⟨V2, hV2, ⟨v0, s0⟩, r0, hC3, hB3⟩ := hC2.put hil (hrim.1 rfl)
                  have hb3 := hbw.trans (hB3 w.heap.size hBw)
                  clear hC2 hB3 hrim
                  go_wp2
                  go_roundw
                  case rel => exact ⟨k + 1, by omega, by go_num, hC3, hb3⟩
                  case measure => simp [intOf]; omega
                | false =>
                  have hC3 := hC2.skip (fun h => by have := hrim.2 h; cases this)
                  clear hC2 hrim
                  go_wp2
                  go_roundw
                  case rel => exact ⟨k + 1, by omega, by go_num, hC3, hbw⟩
                  case measure => simp [intOf]; omega
        · have hke : k = l.length := by omega
          have y5 : IntKind.i64.wrap ((i : Int) + 1) = (i : Int) + 1 := wrap_id (by omega) (by omega)
          have hD2 : RimDone wr B l (i + 1) := by rw [hke] at hC; exact hC.done
          clear hC
          go_wp2
          go_roundw
          case rel => exact ⟨i + 1, by omega, by go_num, hD2, hbr⟩
          case measure => simp [intOf]; omega
    · have hie : i = l.length := by omega
      have hD2 : RimDone wr B l l.length := by rw [hie] at hD; exact hD
      clear hD hie
      go_wp2
      go_ret
      exact ⟨B, rfl, hD2, hBw, hbr⟩
end Go.Proofs.YtgpapegpdfonpaaGreatDoor
