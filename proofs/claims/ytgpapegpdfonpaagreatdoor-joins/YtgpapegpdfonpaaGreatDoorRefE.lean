/-
  The document's model: proper.
-/
import Derived.Test.YtgpapegpdfonpaaGreatDoorRefD
import Derived.Deep.CutRange
import Derived.Deep.DeepCutAuto
import Derived.Deep.CutBlock
namespace Go.Proofs.YtgpapegpdfonpaaGreatDoor
set_option linter.unusedVariables false
set_option linter.unusedSimpArgs false
open Go.RowKit

theorem is_tri_at {l : List Pt} {ts : List T3} (F : IsOk l ts) {i : Nat} (hi : i < ts.length) :
    ∃ a b c : Nat, ts.getD i (0, 0, 0) = ((a : Int), (b : Int), (c : Int)) ∧ a < b ∧ a < c ∧ b < l.length ∧ c < l.length ∧ 0 < sd (ptAt l a) (ptAt l b) (ptAt l c) ∧ (∀ d, d < l.length → cc (ptAt l a) (ptAt l b) (ptAt l c) (ptAt l d) ≤ 0) := by
  have e : ts.getD i (0, 0, 0) = ts[i] := by simp [hi]
  rw [e]
  obtain ⟨⟨h0, h1, h2, h3, h4⟩, h5, h6⟩ := F.tri _ (List.getElem_mem hi)
  generalize ts[i] = t at *
  obtain ⟨x, y, z⟩ := t
  dsimp only at *
  refine ⟨x.toNat, y.toNat, z.toNat, ?_, by omega, by omega, by omega, by omega, h5, h6⟩
  rw [Int.toNat_of_nonneg h0, Int.toNat_of_nonneg (by omega), Int.toNat_of_nonneg (by omega)]
theorem pw_at {R : T3 → T3 → Prop} {ts : List T3} (h : ts.Pairwise R) {i j : Nat} (hij : i < j) (hj : j < ts.length) : R (ts.getD i (0, 0, 0)) (ts.getD j (0, 0, 0)) := by
  have e1 : ts.getD i (0, 0, 0) = ts[i] := by simp [show i < ts.length by omega]
  have e2 : ts.getD j (0, 0, 0) = ts[j] := by simp [hj]
  rw [e1, e2]
  exact List.pairwise_iff_getElem.1 h i j (by omega) hj hij

set_option maxRecDepth 100000 in
set_option maxHeartbeats 8000000 in
theorem proper_any (b off cap gt ct : Nat) (l : List Pt) (ts : List T3) (w : World) (hl : l.length ≤ 60) (hn : AllNear l) (hb : b < w.heap.size) (hp : PtsAt w b off l) (hg : gt < w.heap.size) (ht : TrisAt w gt ts) (htl : ts.length ≤ 4000) (F : IsOk l ts) :
    Calls Tryz.prog 93 #[.slice (some ⟨b, off, none⟩) l.length cap, .slice (some ⟨gt, 0, none⟩) ts.length ct] w fun e w' => e = .returned (.bool true) ∧ Below w.heap.size w w' := by
  have HN : Hid (AllNear l) := hn
  have FO : Hid (IsOk l ts) := F
  clear hn F
  go_enter Tryz.func93, Tryz.ntmps93
  go_wp2
  go_loopw [5] (fun i wr => ∃ k : Nat, k ≤ ts.length ∧ i = .int .i64 k ∧ Below w.heap.size w wr) (fun i _ => ts.length - (intOf i).toNat)
  case atStart => exact ⟨0, Nat.zero_le _, rfl, Below.refl _ _⟩
  case round =>
    obtain ⟨k, hk, rfl, hbr⟩ := hrel
    by_cases hlt : k < ts.length
    · obtain ⟨x, y, z, hxyz, hxy, hxz, hyl, hzl, hsd, _⟩ := is_tri_at FO.out hlt
      obtain ⟨t0, t1, t2⟩ := (ht.below hbr hg) k hlt
      have HXYZ : Hid (ts.getD k (0, 0, 0) = ((x : Int), (y : Int), (z : Int))) := hxyz
      rw [hxyz] at t0 t1 t2
      dsimp only at t0 t1 t2
      clear hxyz
      have y0 : (0 : Int) ≤ (k : Int) := by omega
      have y1 : (k : Int) < (ts.length : Int) := by omega
      go_wp2_with fail
      go_quiet (fail)
      go_wp2_with fail
      have hbv : Below w.heap.size w (wr.drewN nq) := below_drewN hbr
      clear t0 t1 t2 hbr
      generalize wr.drewN nq = V at *
      have hpr := hp.below hbv hb
      obtain ⟨d0, d1⟩ := hpr x (by omega)
      obtain ⟨d2, d3⟩ := hpr y hyl
      obtain ⟨d4, d5⟩ := hpr z hzl
      have nA : Near (l.getD x (0, 0)).1 (l.getD x (0, 0)).2 := HN.out x (by omega)
      have nB : Near (l.getD y (0, 0)).1 (l.getD y (0, 0)).2 := HN.out y hyl
      have nC : Near (l.getD z (0, 0)).1 (l.getD z (0, 0)).2 := HN.out z hzl
      have SC := fun W => rside_any _ _ _ _ _ _ W nA nB nC
      rw [sd_sideN] at hsd
      have hs1 : 0 < sg (sideN (l.getD x (0, 0)).1 (l.getD x (0, 0)).2 (l.getD y (0, 0)).1 (l.getD y (0, 0)).2 (l.getD z (0, 0)).1 (l.getD z (0, 0)).2) := by unfold sg; rw [if_pos hsd]; omega
      clear hsd nA nB nC hpr
      generalize sg (sideN (l.getD x (0, 0)).1 (l.getD x (0, 0)).2 (l.getD y (0, 0)).1 (l.getD y (0, 0)).2 (l.getD z (0, 0)).1 (l.getD z (0, 0)).2) = S at *
      generalize (l.getD x (0, 0)).1 = ax at *
      generalize (l.getD x (0, 0)).2 = ay at *
      generalize (l.getD y (0, 0)).1 = bx at *
      generalize (l.getD y (0, 0)).2 = by2 at *
      generalize (l.getD z (0, 0)).1 = cx at *
      generalize (l.getD z (0, 0)).2 = cy at *
      have gr : b < V.heap.size := Nat.lt_of_lt_of_le hb hbv.size
      have y2 : (0 : Int) ≤ (x : Int) := by omega
      have y3 : (x : Int) < (l.length : Int) := by omega
      have y4 : (0 : Int) ≤ (y : Int) := by omega
      have y5 : (y : Int) < (l.length : Int) := by omega
      have y6 : (0 : Int) ≤ (z : Int) := by omega
      have y7 : (z : Int) < (l.length : Int) := by omega
      have f1 : decide ((x : Int) < 0) = false := decide_eq_false (by omega)
      have f2 : decide ((y : Int) ≤ (x : Int)) = false := decide_eq_false (by omega)
      have f3 : decide ((z : Int) ≤ (x : Int)) = false := decide_eq_false (by omega)
      have f4 : decide ((l.length : Int) ≤ (y : Int)) = false := decide_eq_false (by omega)
      have f5 : decide ((l.length : Int) ≤ (z : Int)) = false := decide_eq_false (by omega)
      have f2' : ¬ y ≤ x := by omega
      have f3' : ¬ z ≤ x := by omega
      have f4' : ¬ l.length ≤ y := by omega
      have f5' : ¬ l.length ≤ z := by omega
      have f6 : decide (S ≤ 0) = false := decide_eq_false (by omega)
      go_region_held3 (fun w' => Below V.heap.size V w' ∧ ∀ b o, b < V.heap.size → w'.cell? ⟨b, o, none⟩ = V.cell? ⟨b, o, none⟩) (first | exact keep0 _ | exact keep1 (by assumption) hb1)
        (first | (go_at_call 87; refine (SC _).mono ?_; rintro e w' ⟨rfl, hb1⟩))
      rename_i hSS
      have hb2 := hbv.trans (hSS.1.mono hbv.size)
      clear hSS hb1 SC d0 d1 d2 d3 d4 d5 hbv gr f1 f2 f3 f4 f5 f2' f3' f4' f5'
      generalize w' = V2 at *
      have x3 : IntKind.i64.wrap ((k : Int) + 1) = (k : Int) + 1 := wrap_id (by omega) (by omega)
      by_cases hk0 : k = 0
      · have g0 : decide ((0 : Int) < (k : Int)) = false := decide_eq_false (by omega)
        go_wp2
        go_roundw
        case rel => exact ⟨k + 1, by omega, by go_num, hb2⟩
        case measure => simp [intOf]; omega
      · obtain ⟨j, rfl⟩ : ∃ j, k = j + 1 := ⟨k - 1, by omega⟩
        obtain ⟨t0, t1, t2⟩ := (ht.below hb2 hg) j (by omega)
        obtain ⟨s0, s1, s2⟩ := (ht.below hb2 hg) (j + 1) hlt
        have RC := fun W => rising_any _ _ W (pw_at FO.out.srt (show j < j + 1 by omega) hlt)
        have gr : gt < V2.heap.size := Nat.lt_of_lt_of_le hg hb2.size
        clear HXYZ
        generalize ts.getD j (0, 0, 0) = p at *
        generalize ts.getD (j + 1) (0, 0, 0) = q at *
        generalize p.1 = p0 at *
        generalize p.2.1 = p1 at *
        generalize p.2.2 = p2 at *
        generalize q.1 = q0 at *
        generalize q.2.1 = q1 at *
        generalize q.2.2 = q2 at *
        have x4 : IntKind.i64.wrap (j : Int) = (j : Int) := wrap_id (by omega) (by omega)
        have x5 : (0 : Int) < (j : Int) + 1 := by omega
        have x6 : (0 : Int) ≤ (j : Int) := by omega
        have x7 : (j : Int) < (ts.length : Int) := by omega
        have x8 : (0 : Int) ≤ (j : Int) + 1 := by omega
        have x9 : (j : Int) + 1 < (ts.length : Int) := by omega
        go_wp2_with fail
        go_region_held3 (fun w' => Below V2.heap.size V2 w' ∧ ∀ b o, b < V2.heap.size → w'.cell? ⟨b, o, none⟩ = V2.cell? ⟨b, o, none⟩) (first | exact keep0 _ | exact keep1 (by assumption) hb1)
          (first | (go_at_call 122; refine (RC _).mono ?_; rintro e w' ⟨rfl, hb1⟩))
        rename_i hSS
        have hb3 := hb2.trans (hSS.1.mono hb2.size)
        clear hSS hb1 RC t0 t1 t2 s0 s1 s2
        go_wp2
        go_roundw
        case rel => exact ⟨j + 1 + 1, by omega, by go_num, hb3⟩
        case measure => simp [intOf]; omega
    · go_wp2
      go_ret
      exact ⟨rfl, hbr⟩
end Go.Proofs.YtgpapegpdfonpaaGreatDoor
