/-
  The statement's part for meshes: Known.inserts, walked.
-/
import Derived.Test.YtgpapegpdfonpaaGreatDoorMeshHI
set_option linter.unusedVariables false
set_option linter.unusedSimpArgs false
namespace Go.Proofs.YtgpapegpdfonpaaGreatDoor
open Go.RowKit
attribute [local go_sem ↓] Go.wp_at_zero Go.wp_at_succ
def RP (V : World) (o : Obj) (vP : Value) (pts : List Pt) (p : Pt) (v : Value) (w3 : World) : Prop :=
 ∃ g2 cap2, v = .slice (some ⟨g2, 0, none⟩) (pts.length + 1) cap2 ∧ w3.ownsRow 0 37 2 v (pts.length + 1) (cellsP pts ++ [.int .i64 p.1, .int .i64 p.2]) ∧ ((vP.ownBlock = some g2 ∧ (V.alloc o).grownBy w3 (some g2)) ∨ (g2 = V.heap.size + 1 ∧ (V.alloc o).grownBy w3 none))
def RN' (V : World) (o : Obj) (vN : Value) (nums : List Int) (m : Int) (v : Value) (w3 : World) : Prop :=
 ∃ g2 cap2, v = .slice (some ⟨g2, 0, none⟩) (nums.length + 1) cap2 ∧ w3.ownsRow 0 3 1 v (nums.length + 1) (nums.map (.int .i64) ++ [.int .i64 m]) ∧ ((vN.ownBlock = some g2 ∧ (V.alloc o).grownBy w3 (some g2)) ∨ (g2 = V.heap.size + 1 ∧ (V.alloc o).grownBy w3 none))
def valsP (K : Nat) (vP : Value) (p : Pt) (B : Nat) : Nat → Option Value
 | 0 => some (.pointer (some ⟨K, 0, none⟩))
 | 1 => some (.pointer (some ⟨K, 0, none⟩))
 | 2 => some (.pointer (some ⟨K, 0, none⟩))
 | 3 => some (.pointer (some ⟨K, 1, none⟩))
 | 4 => some vP
 | 5 => some (pv p.1 p.2)
 | 6 => some (.slice (some ⟨B, 0, none⟩) 1 1)
 | 8 => some (.pointer (some ⟨K, 0, none⟩))
 | 9 => some (.pointer (some ⟨K, 1, none⟩))
 | _ => none
def valsN (K : Nat) (vN : Value) (m : Int) (B : Nat) : Nat → Option Value
 | 0 => some (.pointer (some ⟨K, 0, none⟩))
 | 1 => some (.pointer (some ⟨K, 0, none⟩))
 | 2 => some (.pointer (some ⟨K, 0, none⟩))
 | 3 => some (.pointer (some ⟨K, 2, none⟩))
 | 4 => some vN
 | 5 => some (.pointer (some ⟨K, 0, none⟩))
 | 6 => some (.pointer (some ⟨K, 0, none⟩))
 | 7 => some (.pointer (some ⟨K, 3, none⟩))
 | 8 => some (.int .i64 m)
 | 9 => some (.slice (some ⟨B, 0, none⟩) 1 1)
 | 11 => some (.pointer (some ⟨K, 0, none⟩))
 | 12 => some (.pointer (some ⟨K, 2, none⟩))
 | _ => none
set_option maxRecDepth 100000 in
set_option maxHeartbeats 8000000 in
theorem inserts_any {MAt : MeshPred} (L : MeshLaw MAt) (iK iM : Nat) (tag : Nat → Nat) (d : KD) (px py : Int) (w : World) (hK : KM MAt w tag iK iM d) (hlt : Tagged w tag) (hev : d.s.ever ≤ 2000000000000) (h1 : 4 < iK) (h2 : 4 < iM) (h3 : iK ≠ iM) :
  Calls Tryz.prog 58 #[.pointer (some ⟨d.K, 0, none⟩), .agg #[.int .i64 px, .int .i64 py]] w fun e w' => e = .returned (.bool true) ∧ KPost MAt w w' tag iK iM d := by
 obtain ⟨⟨vP, vN, vT, hA⟩, hM⟩ := hK
 have OK : Hid d.s.Ok := L.ok _ _ _ _ _ hM
 have hle := OK.out.le
 have hn60 : d.s.nums.length ≤ 60 := by have := OK.out.len; omega
 have hKl := hA.lt
 obtain ⟨iP, hiP, hzP, hsP, hbP⟩ := info_parts infoPt
 obtain ⟨i0, hi0, hz0, hs0, hb0⟩ := info_parts info3
 go_enter Tryz.func58, Tryz.ntmps58
 go_upto_region 1 with fail
 have hbb := below1 w (.cells #[.int .i64 px, .int .i64 py] 37)
 have x0 : (w.alloc (.cells #[.int .i64 px, .int .i64 py] 37)).cell? ⟨w.heap.size, 0, none⟩ = some (.int .i64 px) := by rw [World.cell?_alloc_at _ _ _ _ (by simp)]; rfl
 have x1 : (w.alloc (.cells #[.int .i64 px, .int .i64 py] 37)).cell? ⟨w.heap.size, 1, none⟩ = some (.int .i64 py) := by rw [World.cell?_alloc_at _ _ _ _ (by simp)]; rfl
 have hs0' : (w.alloc (.cells #[.int .i64 px, .int .i64 py] 37)).heap.size = w.heap.size + 1 := by simp
 generalize w.alloc (.cells #[.int .i64 px, .int .i64 py] 37) = W at *
 have hAW := hA.below hbb
 have hMW : MAt W tag iM d.mp d.s := L.frame _ _ _ _ _ _ _ hM hbb.size fun k hk ht => ⟨hbb.block k hk, ht⟩
 have hltW : Tagged W tag := fun k hk => by have := hlt k hk; omega
 have c0 := hAW.cells.1
 have htx : tag w.heap.size = 0 := by
  by_cases e : tag w.heap.size = 0
  ·exact e
  ·have := hlt _ e; omega
 have HT := fun m => L.insert (W.drewN m) tag iM d.mp d.s px py (by omega) (L.frame _ _ _ _ _ _ _ hMW (Nat.le_refl _) fun k hk ht => ⟨rfl, ht⟩) hltW hev
 have HT1 := L.insert W.drew tag iM d.mp d.s px py (by omega) (L.frame _ _ _ _ _ _ _ hMW (Nat.le_refl _) fun k hk ht => ⟨rfl, ht⟩) hltW hev
 have HAW : Hid (KAt W tag iK d vP vN vT ∧ MAt W tag iM d.mp d.s ∧ Tagged W tag ∧ Below w.heap.size w W) := ⟨hAW, hMW, hltW, hbb⟩
 have hKW : d.K < W.heap.size := by omega
 have hxW : w.heap.size < W.heap.size := by omega
 clear hA hM hlt hAW hMW hltW HT
 go_cut [5, 6] (fun s5 s6 wx => ∃ n s' tag1, s5 = .int .i64 n ∧ s6 = .int .i64 (insErr d.s (px, py)) ∧ InsR d.s (px, py) n s' ∧ Agree W tag tag1 ∧ Tagged wx tag1 ∧ MAt wx tag1 iM d.mp s' ∧ Chg (fun k => tag k = iM) W wx)
 case first =>
  as_aux_lemma =>
  go_region_with (go_at_call 97; refine HT1.mono ?_; rintro e w1 ⟨n, s', rfl, hins, tag1, hag1, hlt1, hM1, hch1, _⟩)
  all_goals go_wp2_with fail
  all_goals go_meet
  all_goals exact ⟨n, s', tag1, rfl, rfl, hins, hag1, hlt1, hM1, ⟨hch1.os, hch1.tape, hch1.output, hch1.size, hch1.far⟩⟩
 case rest =>
  as_aux_lemma =>
  obtain ⟨n, s', tag1, rfl, rfl, hins, hag1, hlt1, hM1, hch1⟩ := hcut
  have hA1 := HAW.out.1.keep (w' := wc) (tag' := tag1) fun k hk ht => ⟨hch1.far k hk (by omega), (hag1 k hk).trans ht⟩
  replace x0 := (hch1.cell (o := 0) hxW (by rw [htx]; omega)).trans x0
  replace x1 := (hch1.cell (o := 1) hxW (by rw [htx]; omega)).trans x1
  obtain ⟨pa, pc, rfl⟩ := ownS_any hA1.ownP
  obtain ⟨na, nc, rfl⟩ := ownS_any hA1.ownN
  have hAg : Agree w tag tag1 := fun k hk => hag1 k (by omega)
  have hCh : Chg (fun k => tag k = iM) w wc := Chg.trans (Chg.of_below HAW.out.2.2.2) hch1 fun _ _ h => h
  have H1 : Hid (KAt wc tag1 iK d (.slice pa d.s.pts.length pc) (.slice na d.s.nums.length nc) vT ∧ MAt wc tag1 iM d.mp s' ∧ Agree w tag tag1 ∧ Chg (fun k => tag k = iM) w wc ∧ Tagged wc tag1 ∧ InsR d.s (px, py) n s') := ⟨hA1, hM1, hAg, hCh, hlt1, hins⟩
  have hK1 : d.K < wc.heap.size := hA1.lt
  have hx1 : w.heap.size < wc.heap.size := Nat.lt_of_lt_of_le hxW hch1.size
  have e1 := hA1.cells.2.1
  clear hA1 hM1 hag1 hlt1 hch1 hins hAg hCh HAW hKW hxW c0 HT1 hbb hs0'
  generalize wc = W1 at *
  go_upto_region 3 with (go_at_call 63; refine (rfar_any _ _ _).mono ?_; rintro e w2 ⟨rfl, hb2⟩)
  have f1 := (hb2.cell (p := ⟨d.K, 1, none⟩) hK1).trans e1
  replace x0 := (hb2.cell (p := ⟨w.heap.size, 0, none⟩) hx1).trans x0
  replace x1 := (hb2.cell (p := ⟨w.heap.size, 1, none⟩) hx1).trans x1
  have HRA : Hid (RawAt w2 pa d.s.pts) := (RowP.raw' H1.out.1.ownP).below hb2
  have hK2 : d.K < w2.heap.size := Nat.lt_of_lt_of_le hK1 hb2.size
  have hx2 : w.heap.size < w2.heap.size := Nat.lt_of_lt_of_le hx1 hb2.size
  have HB2 : Hid (Below W1.heap.size W1 w2) := hb2
  clear hb2 e1
  go_upto_block 0 with fail
  go_cut [9, 10] (fun s9 _ wx => s9 = .bool (decide ((px, py) ∈ d.s.pts)) ∧ Below w2.heap.size w2 wx)
  case first =>
   as_aux_lemma =>
   clear H1
   go_wp2_with fail
   go_loopw [9, 10] (fun s9 s10 wr => ∃ k : Nat, k ≤ d.s.pts.length ∧ s10 = .int .i64 k ∧ s9 = .bool (thereB d.s.pts (px, py) k) ∧ Below w2.heap.size w2 wr) (fun _ i _ => d.s.pts.length - (intOf i).toNat)
   case atStart => exact ⟨0, Nat.zero_le _, rfl, rfl, Below.refl _ _⟩
   case round =>
    obtain ⟨k, hk, rfl, rfl, hbr⟩ := hrel
    have g1 := (hbr.cell (p := ⟨d.K, 1, none⟩) hK2).trans f1
    have hKr : d.K < wr.heap.size := Nat.lt_of_lt_of_le hK2 hbr.size
    by_cases hkl : k < d.s.pts.length
    ·rcases HRA.out.below hbr with h | ⟨b, off, rfl, hb, hp⟩
     ·rw [h] at hkl; simp at hkl
     obtain ⟨q0, q1⟩ := hp k hkl
     have HS : Hid (thereB d.s.pts (px, py) (k + 1) = (thereB d.s.pts (px, py) k || ((d.s.pts.getD k (0, 0)).1 == px && (d.s.pts.getD k (0, 0)).2 == py))) := thereB_succ _ _ hkl
     have z0 := (hbr.cell (p := ⟨w.heap.size, 0, none⟩) hx2).trans x0
     have z1 := (hbr.cell (p := ⟨w.heap.size, 1, none⟩) hx2).trans x1
     have y0 : (0 : Int) ≤ (k : Int) := by omega
     have y1 : (k : Int) < (d.s.pts.length : Int) := by omega
     have y2 : IntKind.i64.wrap ((k : Int) + 1) = (k : Int) + 1 := wrap_id (by omega) (by omega)
     generalize thereB d.s.pts (px, py) k = jj at *
     generalize (d.s.pts.getD k (0, 0)).1 = qx at *
     generalize (d.s.pts.getD k (0, 0)).2 = qy at *
     clear hp
     cases jj with
     | true =>
      have HR : Hid (thereB d.s.pts (px, py) (k + 1) = true) := by unfold Hid; rw [HS.out]; rfl
      clear HS
      go_wp2_with fail
      go_quiet (fail)
      go_wp2
      go_roundw
      case rel => exact ⟨k + 1, by omega, by go_num, by rw [HR.out], below_drewN hbr⟩
      case measure => simp [intOf]; omega
     | false =>
      by_cases e1 : qx = px
      ·by_cases e2 : qy = py
       ·subst e1 e2
        have HR : Hid (thereB d.s.pts (qx, qy) (k + 1) = true) := by unfold Hid; rw [HS.out]; simp
        clear HS
        go_wp2_with fail
        go_quiet (fail)
        go_wp2
        go_roundw
        case rel => exact ⟨k + 1, by omega, by go_num, by rw [HR.out], below_drewN hbr⟩
        case measure => simp [intOf]; omega
       ·have HR : Hid (thereB d.s.pts (px, py) (k + 1) = false) := by unfold Hid; rw [HS.out]; simp [e2]
        clear HS
        go_wp2_with fail
        go_quiet (fail)
        go_wp2
        go_roundw
        case rel => exact ⟨k + 1, by omega, by go_num, by rw [HR.out], below_drewN hbr⟩
        case measure => simp [intOf]; omega
      ·have HR : Hid (thereB d.s.pts (px, py) (k + 1) = false) := by unfold Hid; rw [HS.out]; simp [e1]
       clear HS
       go_wp2_with fail
       go_quiet (fail)
       go_wp2
       go_roundw
       case rel => exact ⟨k + 1, by omega, by go_num, by rw [HR.out], below_drewN hbr⟩
       case measure => simp [intOf]; omega
    ·have ek : k = d.s.pts.length := by omega
     subst ek
     have HR : Hid (thereB d.s.pts (px, py) d.s.pts.length = decide ((px, py) ∈ d.s.pts)) := by
      unfold Hid
      rw [Bool.eq_iff_iff, thereB_all, decide_eq_true_iff]
     generalize thereB d.s.pts (px, py) d.s.pts.length = jj at *
     go_wp2
     go_meet
     case rel => exact ⟨by rw [HR.out], hbr⟩
  case rest =>
   as_aux_lemma =>
   obtain ⟨rfl, hb3⟩ := hcut
   have hb13 := HB2.out.trans (hb3.mono HB2.out.size)
   have k1 := (hb3.cell (p := ⟨d.K, 1, none⟩) hK2).trans f1
   have hK3 : d.K < wc.heap.size := Nat.lt_of_lt_of_le hK2 hb3.size
   replace x0 := (hb3.cell (p := ⟨w.heap.size, 0, none⟩) hx2).trans x0
   replace x1 := (hb3.cell (p := ⟨w.heap.size, 1, none⟩) hx2).trans x1
   have hx3 : w.heap.size < wc.heap.size := Nat.lt_of_lt_of_le hx2 hb3.size
   have HIE : Hid (insErr d.s (px, py) = if farB px py = true then 1 else if (px, py) ∈ d.s.pts then 3 else if d.s.pts.length = 60 then 2 else 0) := rfl
   have HB13 : Hid (Below W1.heap.size W1 wc) := hb13
   have HERR : Hid (insErr d.s (px, py) ≠ 0 → n = 0 ∧ KPost MAt w wc tag iK iM d) := fun he => by
    obtain ⟨hA1, hM1, hag1, hch1, hlt1, hins⟩ := H1.out
    rcases hins with ⟨_, hn, hs⟩ | ⟨h0, _⟩
    ·subst hs
     exact ⟨hn, tag1, d, ⟨⟨_, _, _, hA1.below hb13⟩, L.frame _ _ _ _ _ _ _ hM1 hb13.size fun k hk ht => ⟨hb13.block k hk, ht⟩⟩, rfl, by omega, hag1, fun k hk => Nat.lt_of_lt_of_le (hlt1 k hk) hb13.size, Chg.trans (hch1.mono fun k _ h => .inr h) (Chg.of_below (F := fun _ => False) hb13) fun _ _ h => h.elim⟩
    ·exact absurd h0 he
   clear hb3 hb13 HB2 f1 HRA
   generalize wc = W3 at *
   have hl60 : (d.s.pts.length : Int) ≤ 60 := by omega
   cases hfar : farB px py with
   | true =>
    have hie : insErr d.s (px, py) = 1 := by rw [HIE.out, hfar]; rfl
    obtain ⟨rfl, hpost⟩ := HERR.out (by rw [hie]; decide)
    have HPO : Hid (KPost MAt w W3 tag iK iM d) := hpost
    rw [hie]
    clear HERR hpost HIE H1 hie hfar
    generalize decide ((px, py) ∈ d.s.pts) = th at *
    go_wp2_with (go_at_call 39; refine (num_any _ _).mono ?_; rintro e w7 ⟨rfl, rfl⟩)
    go_ret
    exact ⟨rfl, HPO.out⟩
   | false =>
    by_cases hmem : (px, py) ∈ d.s.pts
    ·have hie : insErr d.s (px, py) = 3 := by rw [HIE.out, hfar, if_neg (by simp), if_pos hmem]
     obtain ⟨rfl, hpost⟩ := HERR.out (by rw [hie]; decide)
     have HPO : Hid (KPost MAt w W3 tag iK iM d) := hpost
     rw [hie, decide_eq_true hmem]
     clear HERR hpost HIE H1 hie hmem hfar
     go_wp2_with (go_at_call 39; refine (num_any _ _).mono ?_; rintro e w7 ⟨rfl, rfl⟩)
     go_ret
     exact ⟨rfl, HPO.out⟩
    ·by_cases h60 : d.s.pts.length = 60
     ·have hie : insErr d.s (px, py) = 2 := by rw [HIE.out, hfar, if_neg (by simp), if_neg hmem, if_pos h60]
      obtain ⟨rfl, hpost⟩ := HERR.out (by rw [hie]; decide)
      have HPO : Hid (KPost MAt w W3 tag iK iM d) := hpost
      rw [hie, decide_eq_false hmem]
      have q60 : ((d.s.pts.length : Int) == 60) = true := beq_iff_eq.2 (by omega)
      clear HERR hpost HIE H1 hie hmem h60 hfar hl60
      go_wp2_with (go_at_call 39; refine (num_any _ _).mono ?_; rintro e w7 ⟨rfl, rfl⟩)
      go_ret
      exact ⟨rfl, HPO.out⟩
     ·have hie : insErr d.s (px, py) = 0 := by rw [HIE.out, hfar, if_neg (by simp), if_neg hmem, if_neg h60]
      rw [hie, decide_eq_false hmem]
      have q60 : ((d.s.pts.length : Int) == 60) = false := beq_eq_false_iff_ne.2 (by omega)
      have HIE0 : Hid (insErr d.s (px, py) = 0) := hie
      clear HERR HIE hmem h60 hfar hie
      have KR3 : KRow W3 d.K d.mp d.s.pts d.s.nums d.s.ever d.told d.tl (.slice pa d.s.pts.length pc) (.slice na d.s.nums.length nc) vT := (H1.out.1.below HB13.out).row
      have KRD : Hid (KRow W3.drew d.K d.mp d.s.pts d.s.nums d.s.ever d.told d.tl (.slice pa d.s.pts.length pc) (.slice na d.s.nums.length nc) vT) := ⟨KR3.blk, KR3.ownP, KR3.ownN, KR3.ownT⟩
      clear KR3
      go_upto_region 17 with fail
      go_cut [71] (fun s71 wx => ∃ g2 cap2 w4, s71 = .slice (some ⟨g2, 0, none⟩) (d.s.pts.length + 1) cap2 ∧ wx = w4.setCell ⟨d.K, 1, none⟩ (.slice (some ⟨g2, 0, none⟩) (d.s.pts.length + 1) cap2) ∧ w4.ownsRow 0 37 2 (.slice (some ⟨g2, 0, none⟩) (d.s.pts.length + 1) cap2) (d.s.pts.length + 1) (cellsP d.s.pts ++ [.int .i64 px, .int .i64 py]) ∧ (((Value.slice pa d.s.pts.length pc).ownBlock = some g2 ∧ (W3.drew.alloc (.cells #[.int .i64 px, .int .i64 py] 37)).grownBy w4 (some g2)) ∨ (g2 = W3.drew.heap.size + 1 ∧ (W3.drew.alloc (.cells #[.int .i64 px, .int .i64 py] 37)).grownBy w4 none)))
      case first =>
       as_aux_lemma =>
       refine wp_region_inv (m := 11) (by kernel_rfl) (by kernel_rfl) (dsts := [some 64, some 65, some 66, some 67, some 68, some 69, some 70, some 71, some 72, some 73, none]) rfl (by kernel_rfl) (l := []) rfl (App W3.drew (.cells #[.int .i64 px, .int .i64 py] 37) 6 7 10 (valsP d.K (.slice pa d.s.pts.length pc) (px, py) W3.heap.size) ⟨d.K, 1, none⟩ (RP W3.drew (.cells #[.int .i64 px, .int .i64 py] 37) (.slice pa d.s.pts.length pc) d.s.pts (px, py))) App.start ?_ ?_
       ·refine flS (flS (flS (flS (flS (flS (flS (flS (flS (flS (flS fl0 ?_) ?_) ?_) ?_) ?_) ?_) ?_) ?_) ?_) ?_) ?_
        all_goals intro Ls σ wx hS hp hdn hun
        ·exact (gives_move (x := .tmp 0) rfl rfl (hS.stepV (i := 0) rfl (by decide) (by decide) (by decide))).toS
        ·exact (gives_move (x := .tmp 0) rfl rfl (hS.stepV (i := 1) rfl (by decide) (by decide) (by decide))).toS
        ·exact (gives_nil (x := .tmp 65) rfl (show σ 1 = _ from hS.val 1 _ rfl (hp 1 rfl)) (hS.stepV (i := 2) rfl (by decide) (by decide) (by decide))).toS
        ·exact (gives_field (T := 67) (x := .tmp 66) (f := 1) rfl (show σ 2 = _ from hS.val 2 _ rfl (hp 2 rfl)) (run_field_K1 _ _) (hS.stepV (i := 3) rfl (by decide) (by decide) (by decide))).toS
        ·have hLA : Ls 7 = false := by
          cases hl : Ls 7 with
          | false => rfl
          | true => have := (hdn 7 4 hl rfl); rw [hun] at this; cases this
         exact (gives_load (T := 41) (x := .tmp 67) rfl (show σ 3 = _ from hS.val 3 _ rfl (hp 3 rfl)) (run_load_pts _ _ _ _ ((hS.old hLA hK3).trans k1)) (hS.stepV (i := 4) rfl (by decide) (by decide) (by decide))).toS
        ·have hLA : Ls 7 = false := by
          cases hl : Ls 7 with
          | false => rfl
          | true => have := (hdn 6 5 (hdn 7 6 hl rfl) rfl); rw [hun] at this; cases this
         exact (gives_load (T := 37) (x := .tmp 3) rfl rfl (run_load_pt _ _ _ px py ((hS.old hLA hx3).trans x0) ((hS.old hLA hx3).trans x1)) (hS.stepV (i := 5) rfl (by decide) (by decide) (by decide))).toS
        ·have hLA : Ls 7 = false := by
          cases hl : Ls 7 with
          | false => rfl
          | true => have := (hdn 7 6 hl rfl); rw [hun] at this; cases this
         have hLS : Ls 10 = false := by
          cases hl : Ls 10 with
          | false => rfl
          | true => have := hdn 7 6 (hdn 10 7 hl rfl) rfl; rw [hun] at this; cases this
         have hw := hS.a hun
         subst hw
         exact (gives_build (T := 41) (n := 1) (x := .tmp 69) rfl (show σ 5 = _ from hS.val 5 _ rfl (hp 5 rfl)) (run_build_pt _ _ _) (hS.stepB rfl hLA hLS (by decide) (by decide) rfl)).toS
        ·have hLS : Ls 10 = false := by
          cases hl : Ls 10 with
          | false => rfl
          | true => have := hdn 10 7 hl rfl; rw [hun] at this; cases this
         have hw := hS.b (hp 6 rfl) hun
         subst hw
         obtain ⟨g2, cap2, w4, hrun, hown4, hat4, _⟩ := run_append_where (P := Tryz.prog) (W3.drew.alloc (.cells #[.int .i64 px, .int .i64 py] 37)) 41 41 0 37 iP (.agg #[.int .i64 0, .int .i64 0]) 2 16 Tryz.underlying41 hiP hzP hsP hbP rfl (by decide) (.slice pa d.s.pts.length pc) d.s.pts.length (cellsP d.s.pts) (ownB_below KRD.out.ownP (below1 _ _)) ⟨W3.heap.size, 0, none⟩ 1 1 [.int .i64 px, .int .i64 py] rfl (cell_newT W3.drew (.int .i64 px) (.int .i64 py) 37) (by intro u hu; simp at hu; rcases hu with rfl | rfl <;> rfl) (by decide) (by unfold maxLen; omega) (by omega) (Nat.zero_le _) (W3.heap.size + 1) (by simp)
         exact (gives_append (t := 41) (s := .tmp 68) (x := .tmp 70) rfl (show σ 4 = _ from hS.val 4 _ rfl (hp 4 rfl)) (show σ 6 = _ from hS.val 6 _ rfl (hp 6 rfl)) hrun (hS.stepA rfl (hp 6 rfl) hLS (by decide) (by decide) ⟨g2, cap2, rfl, hown4, hat4⟩)).toS
        ·exact (gives_nil (x := .tmp 64) rfl (show σ 0 = _ from hS.val 0 _ rfl (hp 0 rfl)) (hS.stepV (i := 8) rfl (by decide) (by decide) (by decide))).toS
        ·exact (gives_field (T := 67) (x := .tmp 72) (f := 1) rfl (show σ 8 = _ from hS.val 8 _ rfl (hp 8 rfl)) (run_field_K1 _ _) (hS.stepV (i := 9) rfl (by decide) (by decide) (by decide))).toS
        ·obtain ⟨g2, cap2, e7, hown4, hat4⟩ := hS.c (hp 7 rfl) hun
         have hcK := (grown_at hat4).2.2.2.2 d.K hK3 (fun e => by obtain ⟨cur, hc⟩ := ownS_typ KRD.out.ownP e.symm; exact typ_ne KRD.out.blk hc (by decide) rfl)
         have q1 : wx.cell? ⟨d.K, 1, none⟩ = some (.slice pa d.s.pts.length pc) := (World.cell?_of_block (a := ⟨d.K, 1, none⟩) hcK).trans k1
         have q2 : wx.frozen? ⟨d.K, 1, none⟩ = false := (World.frozen?_of_block (a := ⟨d.K, 1, none⟩) hcK).trans (KRD.out.cells.2.2.2.2.2 1)
         have hst := hS.stepS (v := undef) rfl (hdn 7 6 (hp 7 rfl) rfl) (hp 7 rfl) hun (by decide) (by decide)
         rw [e7] at hst
         exact gives_store (T := 41) (x := .tmp 73) (y := .tmp 71) rfl (show σ 9 = _ from hS.val 9 _ rfl (hp 9 rfl)) (show σ 7 = _ from e7) (run_store_pts _ _ _ _ _ _ _ q1 q2) hst
       ·intro Ls σ wx hS hall
        obtain ⟨w4, ⟨g2, cap2, e7, hown4, hat4⟩, hw⟩ := hS.d (hall 10 (by omega))
        rw [e7] at hown4 hw
        refine ⟨?_⟩
        simp only [lay, Act.put, List.drop_succ_cons, List.drop_zero, List.setIfInBounds_toArray, List.set_cons_succ, List.set_cons_zero, e7]
        go_wp2_with fail
        go_meet
        exact ⟨g2, cap2, w4, rfl, by first | rfl | exact hw, hown4, hat4⟩
      case rest =>
       as_aux_lemma =>
       obtain ⟨g2, cap2, w4, rfl, hwc, hown4, hat4⟩ := hcut
       obtain ⟨KR4, far4⟩ := KRD.out.putP (p := (px, py)) hown4 hat4
       rw [← hwc] at KR4 far4
       have hsz4 : W3.heap.size ≤ wc.heap.size := by
        rw [hwc]
        have := (grown_at hat4).2.2.2.1
        simpa using this
       have hos4 : wc.os = W3.os ∧ wc.tape = W3.tape ∧ wc.output = W3.output := by
        rw [hwc]
        obtain ⟨o1, o2, o3, _⟩ := grown_at hat4
        exact ⟨o1, o2, o3⟩
       have hPT : ∀ g, (Value.slice (some ⟨g2, 0, none⟩) (d.s.pts.length + 1) cap2).ownBlock = some g → tag1 g = iK ∨ W1.heap.size ≤ g := fun g hg => by
        cases hg
        rcases hat4 with ⟨hv, _⟩ | ⟨hv, _⟩
        ·exact .inl (H1.out.1.tP _ hv)
        ·have := HB13.out.size
         have e : W3.drew.heap.size = W3.heap.size := rfl
         right
         show W1.heap.size ≤ g2
         omega
       have HP4 : Hid ((∀ g, (Value.slice (some ⟨g2, 0, none⟩) (d.s.pts.length + 1) cap2).ownBlock = some g → tag1 g = iK ∨ W1.heap.size ≤ g) ∧ Chg (fun k => tag1 k = iK) W1 wc) := by
        refine ⟨hPT, ⟨hos4.1.trans HB13.out.os, hos4.2.1.trans HB13.out.tape, hos4.2.2.trans HB13.out.output, Nat.le_trans HB13.out.size hsz4, fun k hk hF => ?_⟩⟩
        rw [far4 k (Nat.lt_of_lt_of_le hk HB13.out.size) (fun e => hF (by rw [e]; exact H1.out.1.tK)) (fun e => hF (H1.out.1.tP k e.symm))]
        exact HB13.out.block k hk
       have KRD4 : Hid (KRow wc.drew d.K d.mp (d.s.pts ++ [(px, py)]) d.s.nums d.s.ever d.told d.tl (.slice (some ⟨g2, 0, none⟩) (d.s.pts.length + 1) cap2) (.slice na d.s.nums.length nc) vT) := ⟨KR4.blk, KR4.ownP, KR4.ownN, KR4.ownT⟩
       have k2 := KR4.cells.2.2.1
       have k3 := KR4.cells.2.2.2.1
       have hK4 : d.K < wc.heap.size := lt_some KR4.blk
       clear hown4 hat4 KR4 far4 hsz4 hos4 hPT KRD x0 x1 k1 hwc
       generalize wc = W4 at *
       go_upto_region 18 with fail
       go_cut [84] (fun s84 wx => ∃ g2 cap2 w4, s84 = .slice (some ⟨g2, 0, none⟩) (d.s.nums.length + 1) cap2 ∧ wx = w4.setCell ⟨d.K, 2, none⟩ (.slice (some ⟨g2, 0, none⟩) (d.s.nums.length + 1) cap2) ∧ w4.ownsRow 0 3 1 (.slice (some ⟨g2, 0, none⟩) (d.s.nums.length + 1) cap2) (d.s.nums.length + 1) (d.s.nums.map (.int .i64) ++ [.int .i64 (d.s.ever : Int)]) ∧ (((Value.slice na d.s.nums.length nc).ownBlock = some g2 ∧ (W4.drew.alloc (.cells #[.int .i64 (d.s.ever : Int)] 3)).grownBy w4 (some g2)) ∨ (g2 = W4.drew.heap.size + 1 ∧ (W4.drew.alloc (.cells #[.int .i64 (d.s.ever : Int)] 3)).grownBy w4 none)))
       case first =>
        as_aux_lemma =>
        refine wp_region_inv (m := 14) (by kernel_rfl) (by kernel_rfl) (dsts := [some 74, some 75, some 76, some 77, some 78, some 79, some 80, some 81, some 82, some 83, some 84, some 85, some 86, none]) rfl (by kernel_rfl) (l := []) rfl (App W4.drew (.cells #[.int .i64 (d.s.ever : Int)] 3) 9 10 13 (valsN d.K (.slice na d.s.nums.length nc) (d.s.ever : Int) W4.heap.size) ⟨d.K, 2, none⟩ (RN' W4.drew (.cells #[.int .i64 (d.s.ever : Int)] 3) (.slice na d.s.nums.length nc) d.s.nums (d.s.ever : Int))) App.start ?_ ?_
        ·refine flS (flS (flS (flS (flS (flS (flS (flS (flS (flS (flS (flS (flS (flS fl0 ?_) ?_) ?_) ?_) ?_) ?_) ?_) ?_) ?_) ?_) ?_) ?_) ?_) ?_
         all_goals intro Ls σ wx hS hp hdn hun
         ·exact (gives_move (x := .tmp 0) rfl rfl (hS.stepV (i := 0) rfl (by decide) (by decide) (by decide))).toS
         ·exact (gives_move (x := .tmp 0) rfl rfl (hS.stepV (i := 1) rfl (by decide) (by decide) (by decide))).toS
         ·exact (gives_nil (x := .tmp 75) rfl (show σ 1 = _ from hS.val 1 _ rfl (hp 1 rfl)) (hS.stepV (i := 2) rfl (by decide) (by decide) (by decide))).toS
         ·exact (gives_field (T := 67) (x := .tmp 76) (f := 2) rfl (show σ 2 = _ from hS.val 2 _ rfl (hp 2 rfl)) (run_field_K2 _ _) (hS.stepV (i := 3) rfl (by decide) (by decide) (by decide))).toS
         ·have hLA : Ls 10 = false := by
           cases hl : Ls 10 with
           | false => rfl
           | true => have := (hdn 10 4 hl rfl); rw [hun] at this; cases this
          exact (gives_load (T := 26) (x := .tmp 77) rfl (show σ 3 = _ from hS.val 3 _ rfl (hp 3 rfl)) (run_load_nums _ _ _ _ ((hS.old hLA hK4).trans k2)) (hS.stepV (i := 4) rfl (by decide) (by decide) (by decide))).toS
         ·exact (gives_move (x := .tmp 0) rfl rfl (hS.stepV (i := 5) rfl (by decide) (by decide) (by decide))).toS
         ·exact (gives_nil (x := .tmp 79) rfl (show σ 5 = _ from hS.val 5 _ rfl (hp 5 rfl)) (hS.stepV (i := 6) rfl (by decide) (by decide) (by decide))).toS
         ·exact (gives_field (T := 67) (x := .tmp 80) (f := 3) rfl (show σ 6 = _ from hS.val 6 _ rfl (hp 6 rfl)) (run_field_K3 _ _) (hS.stepV (i := 7) rfl (by decide) (by decide) (by decide))).toS
         ·have hLA : Ls 10 = false := by
           cases hl : Ls 10 with
           | false => rfl
           | true => have := (hdn 9 8 (hdn 10 9 hl rfl) rfl); rw [hun] at this; cases this
          exact (gives_load (T := 3) (x := .tmp 81) rfl (show σ 7 = _ from hS.val 7 _ rfl (hp 7 rfl)) (run_load_int _ _ _ _ ((hS.old hLA hK4).trans k3)) (hS.stepV (i := 8) rfl (by decide) (by decide) (by decide))).toS
         ·have hLA : Ls 10 = false := by
           cases hl : Ls 10 with
           | false => rfl
           | true => have := (hdn 10 9 hl rfl); rw [hun] at this; cases this
          have hLS : Ls 13 = false := by
           cases hl : Ls 13 with
           | false => rfl
           | true => have := hdn 10 9 (hdn 13 10 hl rfl) rfl; rw [hun] at this; cases this
          have hw := hS.a hun
          subst hw
          exact (gives_build (T := 26) (n := 1) (x := .tmp 82) rfl (show σ 8 = _ from hS.val 8 _ rfl (hp 8 rfl)) (run_build_int _ _) (hS.stepB rfl hLA hLS (by decide) (by decide) rfl)).toS
         ·have hLS : Ls 13 = false := by
           cases hl : Ls 13 with
           | false => rfl
           | true => have := hdn 13 10 hl rfl; rw [hun] at this; cases this
          have hw := hS.b (hp 9 rfl) hun
          subst hw
          obtain ⟨g2, cap2, w4, hrun, hown4, hat4, _⟩ := run_append_where (P := Tryz.prog) (W4.drew.alloc (.cells #[.int .i64 (d.s.ever : Int)] 3)) 26 26 0 3 i0 (.int .i64 0) 1 8 Tryz.underlying26 hi0 hz0 hs0 hb0 rfl (by decide) (.slice na d.s.nums.length nc) d.s.nums.length (d.s.nums.map (.int .i64)) (ownB_below KRD4.out.ownN (below1 _ _)) ⟨W4.heap.size, 0, none⟩ 1 1 [.int .i64 (d.s.ever : Int)] rfl (cell_one_new W4.drew (.int .i64 (d.s.ever : Int)) 3) (by intro u hu; simp at hu; subst hu; rfl) (by decide) (by unfold maxLen; omega) (by omega) (Nat.zero_le _) (W4.heap.size + 1) (by simp)
          exact (gives_append (t := 26) (s := .tmp 78) (x := .tmp 83) rfl (show σ 4 = _ from hS.val 4 _ rfl (hp 4 rfl)) (show σ 9 = _ from hS.val 9 _ rfl (hp 9 rfl)) hrun (hS.stepA rfl (hp 9 rfl) hLS (by decide) (by decide) ⟨g2, cap2, rfl, hown4, hat4⟩)).toS
         ·exact (gives_nil (x := .tmp 74) rfl (show σ 0 = _ from hS.val 0 _ rfl (hp 0 rfl)) (hS.stepV (i := 11) rfl (by decide) (by decide) (by decide))).toS
         ·exact (gives_field (T := 67) (x := .tmp 85) (f := 2) rfl (show σ 11 = _ from hS.val 11 _ rfl (hp 11 rfl)) (run_field_K2 _ _) (hS.stepV (i := 12) rfl (by decide) (by decide) (by decide))).toS
         ·obtain ⟨g2, cap2, e7, hown4, hat4⟩ := hS.c (hp 10 rfl) hun
          have hcK := (grown_at hat4).2.2.2.2 d.K hK4 (fun e => by obtain ⟨cur, hc⟩ := ownS_typ KRD4.out.ownN e.symm; exact typ_ne KRD4.out.blk hc (by decide) rfl)
          have q1 : wx.cell? ⟨d.K, 2, none⟩ = some (.slice na d.s.nums.length nc) := (World.cell?_of_block (a := ⟨d.K, 2, none⟩) hcK).trans k2
          have q2 : wx.frozen? ⟨d.K, 2, none⟩ = false := (World.frozen?_of_block (a := ⟨d.K, 2, none⟩) hcK).trans (KRD4.out.cells.2.2.2.2.2 2)
          have hst := hS.stepS (v := undef) rfl (hdn 10 9 (hp 10 rfl) rfl) (hp 10 rfl) hun (by decide) (by decide)
          rw [e7] at hst
          exact gives_store (T := 26) (x := .tmp 86) (y := .tmp 84) rfl (show σ 12 = _ from hS.val 12 _ rfl (hp 12 rfl)) (show σ 10 = _ from e7) (run_store_nums _ _ _ _ _ _ _ q1 q2) hst
        ·intro Ls σ wx hS hall
         obtain ⟨w4, ⟨g2, cap2, e7, hown4, hat4⟩, hw⟩ := hS.d (hall 13 (by omega))
         rw [e7] at hown4 hw
         refine ⟨?_⟩
         simp only [lay, Act.put, List.drop_succ_cons, List.drop_zero, List.setIfInBounds_toArray, List.set_cons_succ, List.set_cons_zero, e7]
         go_wp2_with fail
         go_meet
         exact ⟨g2, cap2, w4, rfl, by first | rfl | exact hw, hown4, hat4⟩
       case rest =>
        as_aux_lemma =>
        obtain ⟨g5, cap5, w5, rfl, hwc, hown5, hat5⟩ := hcut
        obtain ⟨KR5, far5⟩ := KRD4.out.putN hown5 hat5
        rw [← hwc] at KR5 far5
        have hsz5 : W4.heap.size ≤ wc.heap.size := by
         rw [hwc]
         have := (grown_at hat5).2.2.2.1
         simpa using this
        have hos5 : wc.os = W4.os ∧ wc.tape = W4.tape ∧ wc.output = W4.output := by
         rw [hwc]
         obtain ⟨o1, o2, o3, _⟩ := grown_at hat5
         exact ⟨o1, o2, o3⟩
        have hNT : ∀ g, (Value.slice (some ⟨g5, 0, none⟩) (d.s.nums.length + 1) cap5).ownBlock = some g → tag1 g = iK ∨ W1.heap.size ≤ g := fun g hg => by
         cases hg
         rcases hat5 with ⟨hv, _⟩ | ⟨hv, _⟩
         ·exact .inl (H1.out.1.tN _ hv)
         ·have := HP4.out.2.size
          have e : W4.drew.heap.size = W4.heap.size := rfl
          right
          show W1.heap.size ≤ g5
          omega
        have HC5 : Hid (Chg (fun k => tag1 k = iK) W1 wc) := by
         refine ⟨hos5.1.trans HP4.out.2.os, hos5.2.1.trans HP4.out.2.tape, hos5.2.2.trans HP4.out.2.output, Nat.le_trans HP4.out.2.size hsz5, fun k hk hF => ?_⟩
         rw [far5 k (Nat.lt_of_lt_of_le hk HP4.out.2.size) (fun e => hF (by rw [e]; exact H1.out.1.tK)) (fun e => hF (H1.out.1.tN k e.symm))]
         exact HP4.out.2.far k hk hF
        obtain ⟨KR6, far6⟩ := KR5.putE ((d.s.ever : Int) + 1)
        obtain ⟨_, _, _, e3, e4, ef⟩ := KR5.cells
        have f3 := ef 3
        have f4 := ef 4
        have hK5 : d.K < wc.heap.size := lt_some KR5.blk
        have HFIN : Hid (KPost MAt w ((wc.setCell ⟨d.K, 3, none⟩ (.int .i64 ((d.s.ever : Int) + 1))).setCell ⟨d.K, 4, none⟩ (.bool false)) tag iK iM d ∧ n = (d.s.ever : Int)) := by
         obtain ⟨hA1, hM1, hag1, hch1, hlt1, hins⟩ := H1.out
         rcases hins with ⟨h0, _⟩ | ⟨_, hn, t1, t2, t3⟩
         ·exact absurd HIE0.out h0
         refine ⟨kpost_of L (d' := ⟨d.K, d.mp, s', false, d.tl⟩) (w5 := (wc.setCell ⟨d.K, 3, none⟩ (.int .i64 ((d.s.ever : Int) + 1))).setCell ⟨d.K, 4, none⟩ (.bool false)) h1 h2 h3 hA1 hM1 hag1 hlt1 hch1 ?_ ?_ ?_ KR6.ownT HP4.out.1 hNT ?_ ⟨_, KR6.blk⟩ (Chg.refl _ _) rfl rfl rfl rfl (by rw [t3]; exact Nat.le_refl _), hn⟩
         ·refine Chg.trans HC5.out (G := fun k => k = d.K) ⟨rfl, rfl, rfl, by simp, fun k _ hk => far6 k hk⟩ fun k hk e => ?_
          rw [e]; exact hA1.tK
         ·rw [t1]; exact KR6.ownP
         ·rw [t2]; exact KR6.ownN
         ·rw [KR6.blk]; unfold kCells; rw [t3]; rfl
        have y1 : IntKind.i64.wrap ((d.s.ever : Int) + 1) = (d.s.ever : Int) + 1 := wrap_id (by omega) (by omega)
        have y2 : IntKind.i64.wrap ((d.s.ever : Int) + 1 - 1) = (d.s.ever : Int) := by rw [wrap_id (by omega) (by omega)]; omega
        have y3 : (n == (d.s.ever : Int)) = true := beq_iff_eq.2 HFIN.out.2
        clear hown5 hat5 KR5 far5 KR6 far6 hNT HC5 HP4 H1 HB13 KRD4 k2 k3 hwc hsz5 hos5 ef HIE0
        go_wp2
        go_ret
        exact ⟨rfl, HFIN.out.1⟩
end Go.Proofs.YtgpapegpdfonpaaGreatDoor
