/-
  The document's own answer: Hull.
-/
import Derived.Test.YtgpapegpdfonpaaGreatDoorRefB
import Derived.Deep.CutRange
import Derived.Deep.DeepCutAuto
namespace Go.Proofs.YtgpapegpdfonpaaGreatDoor
set_option linter.unusedVariables false
set_option linter.unusedSimpArgs false
open Go.RowKit
attribute [local go_sem ↓] Go.wp_at_zero Go.wp_at_succ

set_option maxHeartbeats 800000 in
theorem rhull_fault (a : Option Addr) (cap : Nat) (l : List Pt) (w : World) (hr : RawAt w a l) (hf : faultN l ≠ 0) :
    Calls Tryz.prog 44 #[.slice a l.length cap] w fun e w' => e = .returned (.tuple #[.slice none 0 0, .int .i64 (faultN l)]) ∧ Below w.heap.size w w' := by
  have HF := check_any a cap l w hr
  have hf' : (faultN l != 0) = true := by simpa using hf
  clear hr hf
  generalize faultN l = f at *
  go_enter Tryz.func44, Tryz.ntmps44
  go_wp2_with (go_at_call 48; refine HF.mono ?_; rintro e w1 ⟨rfl, hb1⟩)
  go_ret2
  exact ⟨rfl, hb1⟩

set_option maxHeartbeats 800000 in
theorem rhull_none (a : Option Addr) (cap : Nat) (w : World) :
    Calls Tryz.prog 44 #[.slice a 0 cap] w fun e w' => e = .returned (.tuple #[.slice none 0 0, .int .i64 0]) ∧ Below w.heap.size w w' := by
  have HF := check_any a cap [] w (.inl rfl)
  have hf : faultN [] = 0 := rfl
  rw [hf] at HF
  simp only [List.length_nil] at HF
  go_enter Tryz.func44, Tryz.ntmps44
  go_wp2_with (go_at_call 48; refine HF.mono ?_; rintro e w1 ⟨rfl, hb1⟩)
  go_ret2
  exact ⟨rfl, hb1⟩

def encB (b : Option Nat) : Value := match b with
  | none => .int .i64 (-1)
  | some i => .int .i64 (i : Int)

theorem own_lit1 (w : World) (x : Nat) (T : TypeId) : (w.alloc (.cells #[.int .i64 (x : Int)] T)).ownsRow w.heap.size T 1 (.slice (some ⟨w.heap.size, 0, none⟩) 1 1) 1 [toV x] :=
  ⟨rfl, .inr ⟨w.heap.size, 1, #[.int .i64 (x : Int)], rfl, Nat.le_refl _, heap_alloc_new w _, Nat.le_refl _, by unfold maxLen; omega, rfl, rfl⟩⟩

theorem sg_neg {n : Int} (h : n < 0) : sg n = -1 := by unfold sg; rw [if_neg (by omega), if_pos h]
theorem sg_zero {n : Int} (h : n = 0) : sg n = 0 := by unfold sg; rw [if_neg (by omega), if_neg (by omega)]
theorem sg_posE {n : Int} (h : 0 < n) : sg n = 1 := by unfold sg; rw [if_pos h]

set_option maxHeartbeats 20000000 in
set_option maxRecDepth 100000 in
theorem rhull_any (b off cap : Nat) (l : List Pt) (is : List Nat) (n : Nat) (w : World) (hn : l.length = n + 1) (hb : b < w.heap.size) (hp : PtsAt w b off l) (hf : faultN l = 0) (hio : InOrder l is) :
    Calls Tryz.prog 44 #[.slice (some ⟨b, off, none⟩) l.length cap] w fun e w' =>
      ∃ v, e = .returned (.tuple #[v, .int .i64 0]) ∧ w'.ownsRow w.heap.size 3 1 v (cornersN l is).length ((cornersN l is).map toV) ∧ Below w.heap.size w w' := by
  obtain ⟨hl, hfar, hnd⟩ := fault_zero hf
  have hnear := near_of_far hfar
  have HCk := check_any (some ⟨b, off, none⟩) cap l w (.inr ⟨b, off, rfl, hb, hp⟩)
  rw [hf] at HCk
  have hA := arr_of hio hnd
  have hcn := cornersN_nodup hio hnd
  obtain ⟨i0, hi0, hz0, hz1, hz2⟩ := info_parts info3
  generalize cornersN l is = c at *
  have HFIRST : Hid (leastN l l.length = c.getD 0 0) := leastN_first hA hnd (by omega)
  have HA : Hid (Arr l c) := hA
  have HN : Hid (l.Nodup ∧ c.Nodup ∧ AllNear l) := ⟨hnd, hcn, hnear⟩
  have hlp : 0 < l.length := by omega
  have hcl := hA.le
  have hcp := hA.one hlp
  have l60 : (l.length : Int) ≤ 60 := by omega
  clear hf hfar hnd hnear hA hcn hio hn
  have hl0 : ((l.length : Int) == 0) = false := beq_eq_false_iff_ne.2 (by omega)
  go_enter Tryz.func44, Tryz.ntmps44
  go_wp2_with (go_at_call 48; refine HCk.mono ?_; rintro e w1 ⟨rfl, hb1⟩)
  have hp1 := hp.below hb1 hb
  have hb01 : b < w1.heap.size := Nat.lt_of_lt_of_le hb hb1.size
  have HPW : Hid (PtsAt w b off l) := hp
  clear HCk hp hl0
  go_loopw [5, 6] (fun f i wr => ∃ k : Nat, 1 ≤ k ∧ k ≤ l.length ∧ i = .int .i64 k ∧ f = .int .i64 (leastN l k : Nat) ∧ Below w1.heap.size w1 wr) (fun _ i _ => l.length - (intOf i).toNat)
  case atStart => exact ⟨1, by omega, hlp, rfl, rfl, Below.refl _ _⟩
  case round =>
    obtain ⟨k, hk1, hk, rfl, rfl, hnx⟩ := hrel
    by_cases hlt : k < l.length
    · obtain ⟨c0, c1⟩ := (hp1.below hnx hb01) k hlt
      have hfl := (leastN_ok l k hk1).1
      obtain ⟨c2, c3⟩ := (hp1.below hnx hb01) (leastN l k) (by omega)
      have HS := leastN_succ l k hk1
      have e1 : ptAt l k = ((l.getD k (0, 0)).1, (l.getD k (0, 0)).2) := rfl
      have e2 : ptAt l (leastN l k) = ((l.getD (leastN l k) (0, 0)).1, (l.getD (leastN l k) (0, 0)).2) := rfl
      rw [e1, e2] at HS
      clear e1 e2
      generalize (l.getD k (0, 0)).1 = kx at *
      generalize (l.getD k (0, 0)).2 = ky at *
      generalize (l.getD (leastN l k) (0, 0)).1 = fx at *
      generalize (l.getD (leastN l k) (0, 0)).2 = fy at *
      have F := fun W => rless_any kx ky fx fy W
      have HSH : Hid (leastN l (k + 1) = if decide (plt (kx, ky) (fx, fy)) = true then k else leastN l k) := HS
      clear HS
      generalize leastN l k = f at *
      have x0 : (0 : Int) ≤ (k : Int) := by omega
      have x1 : (k : Int) < (l.length : Int) := by omega
      have x2 : (0 : Int) ≤ (f : Int) := by omega
      have x3 : (f : Int) < (l.length : Int) := by omega
      have x4 : IntKind.i64.wrap ((k : Int) + 1) = (k : Int) + 1 := wrap_id (by omega) (by omega)
      have zb := Nat.lt_of_lt_of_le hb01 hnx.size
      clear hp1
      cases hd : decide (plt (kx, ky) (fx, fy)) with
      | true =>
        rw [hd] at F
        have HQ : Hid (leastN l (k + 1) = k) := by have := HSH.out; rw [hd, if_pos rfl] at this; exact this
        clear HSH hd
        go_wp2_with fail
        go_region_held3 (fun w' => Below wr.heap.size wr w' ∧ ∀ b o, b < wr.heap.size → w'.cell? ⟨b, o, none⟩ = wr.cell? ⟨b, o, none⟩) (first | exact keep0 _ | exact keep1 (by assumption) hb1)
          (first | (go_at_call 90; refine (F _).mono ?_; rintro e w' ⟨rfl, hb1⟩))
        rename_i hS
        have hR := hnx.trans (hS.1.mono hnx.size)
        clear hS hb1 c0 c1 c2 c3
        go_wp2
        go_roundw
        case rel => exact ⟨k + 1, by omega, by omega, by go_num, by rw [HQ.out], hR⟩
        case measure => simp [intOf]; omega
      | false =>
        rw [hd] at F
        have HQ : Hid (leastN l (k + 1) = f) := by have := HSH.out; rw [hd, if_neg (by simp)] at this; exact this
        clear HSH hd
        go_wp2_with fail
        go_region_held3 (fun w' => Below wr.heap.size wr w' ∧ ∀ b o, b < wr.heap.size → w'.cell? ⟨b, o, none⟩ = wr.cell? ⟨b, o, none⟩) (first | exact keep0 _ | exact keep1 (by assumption) hb1)
          (first | (go_at_call 90; refine (F _).mono ?_; rintro e w' ⟨rfl, hb1⟩))
        rename_i hS
        have hR := hnx.trans (hS.1.mono hnx.size)
        clear hS hb1 c0 c1 c2 c3
        go_wp2
        go_roundw
        case rel => exact ⟨k + 1, by omega, by omega, by go_num, by rw [HQ.out], hR⟩
        case measure => simp [intOf]; omega
    · have ek : k = l.length := by omega
      subst ek
      rw [HFIRST.out]
      have hbW := hb1.trans (hnx.mono hb1.size)
      have hpR := hp1.below hnx hb01
      have hbR := Nat.lt_of_lt_of_le hb01 hnx.size
      have e0 : c.take 1 = [c.getD 0 0] := by
        match c, hcp with
        | x :: t, _ => simp
      have hown0 := own_lit1 wr (c.getD 0 0) 3
      have hbN := (hbW.alloc hbW.size (.cells #[.int .i64 ((c.getD 0 0 : Nat) : Int)] 3))
      have hpN : PtsAt (wr.alloc (.cells #[.int .i64 ((c.getD 0 0 : Nat) : Int)] 3)) b off l := hpR.below (below1 _ _) hbR
      have HFST : Hid (∀ j, j < c.length → (c.getD j 0 = c.getD 0 0 ↔ j = 0)) := fun j hj => by
        constructor
        · intro e
          have h1 : c.getD j 0 = c[j] := by simp [hj]
          have h2 : c.getD 0 0 = c[0] := by simp [hcp]
          rw [h1, h2] at e
          exact nodup_inj HN.out.2.1 hj hcp e
        · intro e; rw [e]
      have HE0 : Hid (c.take 1 = [c.getD 0 0]) := e0
      have HL0 : Hid (c.getD 0 0 < l.length) := HA.out.lt 0 hcp
      clear e0 hpR hp1 hnx hb1
      generalize hfst : c.getD 0 0 = fst at *
      have HF0 : Hid (c.getD 0 0 = fst) := hfst
      clear hfst HFIRST
      go_wp2_with fail
      have hown1 : (wr.alloc (.cells #[.int .i64 (fst : Int)] 3)).ownsRow w.heap.size 3 1 (.slice (some ⟨wr.heap.size, 0, none⟩) 1 1) (c.take 1).length ((c.take 1).map toV) := by
        rw [HE0.out]; exact own_mono hown0 hbW.size
      have hbNs : b < (wr.alloc (.cells #[.int .i64 (fst : Int)] 3)).heap.size := by simp; omega
      have hWN : w.heap.size ≤ (wr.alloc (.cells #[.int .i64 (fst : Int)] 3)).heap.size := hbN.size
      clear hown0 hbW hbR
      generalize hWW : wr.alloc (.cells #[.int .i64 (fst : Int)] 3) = W at *
      generalize wr.heap.size = wz at *
      clear hWW
      go_loopw [8, 9] (fun v a wr => ∃ j : Nat, j < c.length ∧ a = .int .i64 (c.getD j 0 : Nat) ∧ wr.ownsRow w.heap.size 3 1 v (c.take (j + 1)).length ((c.take (j + 1)).map toV) ∧ Below w.heap.size w wr) (fun v _ _ => c.length + 1 - lenV v)
      case atStart => exact ⟨0, hcp, by rw [HF0.out], hown1, hbN⟩
      case round =>
        clear hown1 hbN hpN hbNs hWN
        obtain ⟨j, hj, rfl, hown, hnx⟩ := hrel
        have hlen : (c.take (j + 1)).length = j + 1 := by simp; omega
        rw [hlen] at hown
        rcases own_shape hown with ⟨_, h0⟩ | ⟨gv, cv, rfl⟩
        · omega
        have HLEN : Hid ((c.take (j + 1)).length = j + 1) := hlen
        clear hlen
        have haj := HA.out.lt j hj
        have HAJ : Hid (∀ h1 : 1 < c.length, Tgt l (c.getD j 0) (c.getD ((j + 1) % c.length) 0)) := fun h1 => tgt_of HA.out HN.out.2.1 h1 hj
        have HNEXT : Hid (j + 1 < c.length → c.take (j + 1 + 1) = c.take (j + 1) ++ [c.getD (j + 1) 0]) := fun h => by
          rw [List.take_succ_eq_append_getElem h]; simp [h]
        have HJF := HFST.out j hj
        generalize haa : c.getD j 0 = aa at *
        have j60 : (j : Int) + 1 ≤ (l.length : Int) := by omega
        have hd1 : decide ((j : Int) + 1 ≤ (l.length : Int)) = true := decide_eq_true j60
        have hdn : decide (j + 1 ≤ l.length) = true := decide_eq_true (by omega)
        go_wp2_with fail
        generalize wr = V at *
        have hpV := HPW.out.below hnx hb
        have hbV := Nat.lt_of_lt_of_le hb hnx.size
        go_loopw [10, 11] (fun bs i wr => ∃ k : Nat, k ≤ l.length ∧ i = .int .i64 k ∧ bs = encB (scan l aa k) ∧ Below V.heap.size V wr) (fun _ i _ => l.length - (intOf i).toNat)
        case atStart => exact ⟨0, Nat.zero_le _, rfl, rfl, Below.refl _ _⟩
        case round =>
          obtain ⟨k, hk, rfl, rfl, hbk⟩ := hrel
          by_cases hkl : k < l.length
          · have x0 : (0 : Int) ≤ (k : Int) := by omega
            have x1 : (k : Int) < (l.length : Int) := by omega
            have x4 : IntKind.i64.wrap ((k : Int) + 1) = (k : Int) + 1 := wrap_id (by omega) (by omega)
            by_cases hka : k = aa
            · have HS : Hid (encB (scan l aa (k + 1)) = encB (scan l aa k)) := by rw [scan_succ]; unfold nextBest; rw [if_pos hka]; exact rfl
              generalize encB (scan l aa k) = eb at *
              have hke : ((k : Int) == (aa : Int)) = true := by rw [hka]; simp
              go_wp2
              go_roundw
              case rel => exact ⟨k + 1, by omega, by go_num, HS.out.symm, hbk⟩
              case measure => simp [intOf]; omega
            · have hke : ((k : Int) == (aa : Int)) = false := beq_eq_false_iff_ne.2 (by omega)
              have HS : Hid (scan l aa (k + 1) = match scan l aa k with | none => some k | some b => if betterB (ptAt l aa) (ptAt l b) (ptAt l k) = true then some k else some b) := by rw [scan_succ]; unfold nextBest; rw [if_neg hka]; exact rfl
              have hsb := scan_bd l aa k (by omega)
              cases hsc : scan l aa k with
              | none =>
                have HS2 : Hid (scan l aa (k + 1) = some k) := by have := HS.out; rw [hsc] at this; exact this
                clear hsb hsc HS
                simp only [encB]
                go_wp2
                go_roundw
                case rel => exact ⟨k + 1, by omega, by go_num, (congrArg encB HS2.out).symm, hbk⟩
                case measure => simp [intOf]; omega
              | some bb =>
                have HS2 : Hid (scan l aa (k + 1) = if betterB (ptAt l aa) (ptAt l bb) (ptAt l k) = true then some k else some bb) := by have := HS.out; rw [hsc] at this; exact this
                obtain ⟨hba, hbk2⟩ := hsb bb hsc
                clear hsb hsc HS
                simp only [encB]
                obtain ⟨c0, c1⟩ := (hpV.below hbk hbV) aa haj
                obtain ⟨c2, c3⟩ := (hpV.below hbk hbV) bb (by omega)
                obtain ⟨c4, c5⟩ := (hpV.below hbk hbV) k hkl
                have nA : Near (l.getD aa (0, 0)).1 (l.getD aa (0, 0)).2 := HN.out.2.2 aa haj
                have nB : Near (l.getD bb (0, 0)).1 (l.getD bb (0, 0)).2 := HN.out.2.2 bb (by omega)
                have nQ : Near (l.getD k (0, 0)).1 (l.getD k (0, 0)).2 := HN.out.2.2 k hkl
                have HB := HS2.out
                have e1 : ptAt l aa = ((l.getD aa (0, 0)).1, (l.getD aa (0, 0)).2) := rfl
                have e2 : ptAt l bb = ((l.getD bb (0, 0)).1, (l.getD bb (0, 0)).2) := rfl
                have e3 : ptAt l k = ((l.getD k (0, 0)).1, (l.getD k (0, 0)).2) := rfl
                rw [e1, e2, e3] at HB
                clear e1 e2 e3 HS2
                generalize (l.getD aa (0, 0)).1 = ax at *
                generalize (l.getD aa (0, 0)).2 = ay at *
                generalize (l.getD bb (0, 0)).1 = bx at *
                generalize (l.getD bb (0, 0)).2 = by' at *
                generalize (l.getD k (0, 0)).1 = qx at *
                generalize (l.getD k (0, 0)).2 = qy at *
                have HBH : Hid (scan l aa (k + 1) = if betterB (ax, ay) (bx, by') (qx, qy) = true then some k else some bb) := HB
                clear HB
                have SC := fun W => rside_any ax ay bx by' qx qy W nA nB nQ
                have eS : sideN ax ay bx by' qx qy = sd (ax, ay) (bx, by') (qx, qy) := rfl
                rw [eS] at SC
                have HBT : Hid (betterB (ax, ay) (bx, by') (qx, qy) = (decide (sd (ax, ay) (bx, by') (qx, qy) < 0) || (decide (sd (ax, ay) (bx, by') (qx, qy) = 0) && decide (dst (ax, ay) (bx, by') < dst (ax, ay) (qx, qy))))) := rfl
                generalize sd (ax, ay) (bx, by') (qx, qy) = S at *
                generalize hdb : dst (ax, ay) (bx, by') = db at *
                generalize hdq : dst (ax, ay) (qx, qy) = dq at *
                generalize betterB (ax, ay) (bx, by') (qx, qy) = bt at *
                have x2 : (0 : Int) ≤ (aa : Int) := by omega
                have x3 : (aa : Int) < (l.length : Int) := by omega
                have x5 : (0 : Int) ≤ (bb : Int) := by omega
                have x6 : (bb : Int) < (l.length : Int) := by omega
                have zb := Nat.lt_of_lt_of_le hbV hbk.size
                have HDB : Hid (dst (ax, ay) (bx, by') = db) := hdb
                have HDQ : Hid (dst (ax, ay) (qx, qy) = dq) := hdq
                clear eS hdb hdq
                go_wp2_with fail
                go_region_held3 (fun w' => Below wr.heap.size wr w' ∧ ∀ b o, b < wr.heap.size → w'.cell? ⟨b, o, none⟩ = wr.cell? ⟨b, o, none⟩) (first | exact keep0 _ | exact keep1 (by assumption) hb1)
                  (first | (go_at_call 87; refine (SC _).mono ?_; rintro e w' ⟨rfl, hb1⟩))
                rename_i hS
                have hR := hbk.trans (hS.1.mono hbk.size)
                replace c0 := (hS.2 b _ zb).trans c0
                replace c1 := (hS.2 b _ zb).trans c1
                replace c2 := (hS.2 b _ zb).trans c2
                replace c3 := (hS.2 b _ zb).trans c3
                replace c4 := (hS.2 b _ zb).trans c4
                replace c5 := (hS.2 b _ zb).trans c5
                replace zb := Nat.lt_of_lt_of_le zb hS.1.size
                clear hS hb1 hbk SC
                generalize w' = wr at *
                rcases Int.lt_trichotomy S 0 with hs | hs | hs
                · rw [sg_neg hs]
                  have HB2 : Hid (scan l aa (k + 1) = some k) := by
                    have := HBH.out
                    rw [HBT.out, decide_eq_true hs, Bool.true_or, if_pos rfl] at this
                    exact this
                  clear HBH HBT
                  go_wp2_with fail
                  go_quiet (fail)
                  go_wp2
                  go_roundw
                  case rel => exact ⟨k + 1, by omega, by go_num, (congrArg encB HB2.out).symm, below_drewN hR⟩
                  case measure => simp [intOf]; omega
                · rw [sg_zero hs]
                  by_cases hdd : db < dq
                  · have HB2 : Hid (scan l aa (k + 1) = some k) := by
                      have := HBH.out
                      rw [HBT.out, decide_eq_false (p := S < 0) (by omega), decide_eq_true hs, decide_eq_true hdd, if_pos (by simp)] at this
                      exact this
                    have hdt : decide (db < dq) = true := decide_eq_true hdd
                    clear HBH HBT
                    go_wp2_with fail
                    go_region_held3 (fun w' => Below wr.heap.size wr w' ∧ ∀ b o, b < wr.heap.size → w'.cell? ⟨b, o, none⟩ = wr.cell? ⟨b, o, none⟩) (first | exact keep0 _ | exact keep1 (by assumption) hb1)
                      (first | (go_at_call 91; refine (rdist_any _ _ _ _ _ (by assumption) (by assumption)).mono ?_; rintro e w' ⟨rfl, hb1⟩; first | rw [HDQ.out] | rw [HDB.out]))
                    rename_i hS
                    have hR2 := hR.trans (hS.1.mono hR.size)
                    clear hS hb1
                    go_wp2
                    go_roundw
                    case rel => exact ⟨k + 1, by omega, by go_num, (congrArg encB HB2.out).symm, hR2⟩
                    case measure => simp [intOf]; omega
                  · have HB2 : Hid (scan l aa (k + 1) = some bb) := by
                      have := HBH.out
                      rw [HBT.out, decide_eq_false (p := S < 0) (by omega), decide_eq_true hs, decide_eq_false hdd, if_neg (by simp)] at this
                      exact this
                    have hdt : decide (db < dq) = false := decide_eq_false hdd
                    clear HBH HBT
                    go_wp2_with fail
                    go_region_held3 (fun w' => Below wr.heap.size wr w' ∧ ∀ b o, b < wr.heap.size → w'.cell? ⟨b, o, none⟩ = wr.cell? ⟨b, o, none⟩) (first | exact keep0 _ | exact keep1 (by assumption) hb1)
                      (first | (go_at_call 91; refine (rdist_any _ _ _ _ _ (by assumption) (by assumption)).mono ?_; rintro e w' ⟨rfl, hb1⟩; first | rw [HDQ.out] | rw [HDB.out]))
                    rename_i hS
                    have hR2 := hR.trans (hS.1.mono hR.size)
                    clear hS hb1
                    go_wp2
                    go_roundw
                    case rel => exact ⟨k + 1, by omega, by go_num, (congrArg encB HB2.out).symm, hR2⟩
                    case measure => simp [intOf]; omega
                · rw [sg_posE hs]
                  have HB2 : Hid (scan l aa (k + 1) = some bb) := by
                    have := HBH.out
                    rw [HBT.out, decide_eq_false (p := S < 0) (by omega), decide_eq_false (p := S = 0) (by omega), if_neg (by simp)] at this
                    exact this
                  clear HBH HBT
                  go_wp2_with fail
                  go_quiet (fail)
                  go_wp2
                  go_roundw
                  case rel => exact ⟨k + 1, by omega, by go_num, (congrArg encB HB2.out).symm, below_drewN hR⟩
                  case measure => simp [intOf]; omega
          · have ek : k = l.length := by omega
            subst ek
            have hownR := own_below hown hbk
            have hbA := hnx.trans (hbk.mono hnx.size)
            clear hown hnx hbk hpV hbV
            by_cases h1 : 1 < c.length
            · have T := HAJ.out h1
              have hsc := scan_tgt T HN.out.1 l.length T.lt (Nat.le_refl _)
              rw [hsc]
              simp only [encB]
              by_cases hend : j + 1 = c.length
              · have hm : (j + 1) % c.length = 0 := by rw [hend, Nat.mod_self]
                have HTK : Hid (c.take (j + 1) = c) := List.take_of_length_le (by omega)
                rw [hm, HF0.out]
                have HCL : Hid (j + 1 = c.length) := hend
                clear T hsc hm hend
                have y0 : decide ((fst : Int) < 0) = false := decide_eq_false (by omega)
                go_wp2
                go_ret2
                refine ⟨_, rfl, ?_, hbA⟩
                have := hownR
                rw [HTK.out, HCL.out] at this
                rw [HCL.out]
                exact this
              · have hm : (j + 1) % c.length = j + 1 := Nat.mod_eq_of_lt (by omega)
                rw [hm]
                have hj1 : j + 1 < c.length := by omega
                have HTK : Hid (c.take (j + 1 + 1) = c.take (j + 1) ++ [c.getD (j + 1) 0]) := HNEXT.out hj1
                have hne : c.getD (j + 1) 0 ≠ fst := fun e => by
                  have := (HFST.out (j + 1) hj1).1 e
                  omega
                clear T hsc hm hend HNEXT
                have HT1 : Hid (c.getD (j + 1) 0 = c.getD (j + 1) 0) := rfl
                generalize htt : c.getD (j + 1) 0 = tt at *
                have HTT : Hid (c.getD (j + 1) 0 = tt) := htt
                clear htt HT1
                have y0 : decide ((tt : Int) < 0) = false := decide_eq_false (by omega)
                have y1 : ((tt : Int) == (fst : Int)) = false := beq_eq_false_iff_ne.2 (by omega)
                have y2 : ¬ tt = fst := hne
                have hws := hbA.size
                go_wp2_with (at_builtin; refine wpList_append_lies _ (by rfl) (.tmp 109) (.tmp 111) 26 (by rfl) w.heap.size 3 i0 (.int .i64 0) 1 8 Tryz.underlying26 hi0 hz0 hz1 hz2 rfl (by decide) _ _ _ (by rfl) (own_below hownR (below1 _ _)) ⟨wr.heap.size, 0, none⟩ 1 1 [.int .i64 tt] (by rfl) rfl ?c1 ?c2 (by decide) ?c3 ?c4 ?c5 (wr.heap.size + 1) ?c6 ?_)
                case c1 =>
                  intro j u hj
                  match j, hj with
                  | 0, hj => simp at hj; subst hj; simp [Addr.add]
                case c2 => intro u hu; simp at hu; subst hu; rfl
                case c3 => unfold maxLen; omega
                case c4 => omega
                case c5 => simp; omega
                case c6 => simp
                · intro g2 cap2 w3 hown3 hgrow hat hlt3
                  have R := chain_rel (toB := w.heap.size) hownR hbA hown3 hgrow hws
                  clear hown3 hgrow hownR hat
                  go_wp2
                  go_roundw
                  case rel => exact ⟨j + 1, hj1, by rw [HTT.out], by rw [HTK.out]; simpa [toV, HLEN.out] using R.1, R.2⟩
                  case measure => simp [lenV]; omega
            · have hc1 : c.length = 1 := by omega
              have hl1 : l.length = 1 := by
                have := HA.out.two
                omega
              have hj0 : j = 0 := by omega
              rw [scan_one l hl1 aa haj]
              simp only [encB]
              have HTK : Hid (c.take (j + 1) = c) := List.take_of_length_le (by omega)
              have hcl' : j + 1 = c.length := by omega
              have HCL : Hid (j + 1 = c.length) := hcl'
              clear hcl'
              clear hj0 hc1 hl1 h1
              go_wp2
              go_ret2
              refine ⟨_, rfl, ?_, hbA⟩
              have := hownR
              rw [HTK.out, HCL.out] at this
              rw [HCL.out]
              exact this

end Go.Proofs.YtgpapegpdfonpaaGreatDoor
