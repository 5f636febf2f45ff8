/-
  The area by the corners.
-/
import Derived.Test.YtgpapegpdfonpaaGreatMathJ
import Derived.Test.YtgpapegpdfonpaaGreatWalksJK
import Derived.Deep.CutRange
import Derived.BigRegion
import Derived.BigQuiet
import Derived.Deep.DeepCutAuto
import Derived.Deep.CutBlock
namespace Go.Proofs.YtgpapegpdfonpaaGreat
set_option linter.unusedVariables false
set_option linter.unusedSimpArgs false
open Go.RowKit

theorem fan_bd {l : List Pt} {c : List Nat} (hn : AllNear l) (hlt : ∀ i, i < c.length → c.getD i 0 < l.length) : ∀ k, k ≤ c.length → -(512000000 * (k : Int)) ≤ fan (cp l c) k ∧ fan (cp l c) k ≤ 512000000 * (k : Int) := by
  intro k
  induction k with
  | zero => intro _; simp [fan]
  | succ k ih =>
    intro hk
    obtain ⟨i1, i2⟩ := ih (by omega)
    unfold fan
    split
    · have b := sideN_bd (hn _ (hlt 0 (by omega))) (hn _ (hlt (k - 1) (by omega))) (hn _ (hlt k (by omega)))
      have e : sd (cp l c 0) (cp l c (k - 1)) (cp l c k) = sideN (px l (c.getD 0 0)) (py l (c.getD 0 0)) (px l (c.getD (k - 1) 0)) (py l (c.getD (k - 1) 0)) (px l (c.getD k 0)) (py l (c.getD k 0)) := rfl
      rw [← e] at b
      omega
    · omega

set_option maxRecDepth 100000 in
set_option maxHeartbeats 2000000 in
theorem area_any (g gc g8 c8 : Nat) (l : List Pt) (c : List Nat) (w : World) (hl : l.length ≤ 60) (hc : c.length ≤ 60) (hn : AllNear l) (hlt : ∀ i, i < c.length → c.getD i 0 < l.length)
    (hg : g < w.heap.size) (hp : PtsAt w g 0 l) (hg8 : g8 < w.heap.size) (hns : NatsAt w g8 0 c) :
    Calls Tryz.prog 29 #[.slice (some ⟨g, 0, none⟩) l.length gc, .slice (some ⟨g8, 0, none⟩) c.length c8] w fun e w' => e = .returned (iv (fan (cp l c) c.length)) ∧ Below w.heap.size w w' := by
  have hfb := fan_bd hn hlt
  have HLT : Hid (∀ i, i < c.length → c.getD i 0 < l.length) := hlt
  have HFB : Hid (∀ k, k ≤ c.length → -(512000000 * (k : Int)) ≤ fan (cp l c) k ∧ fan (cp l c) k ≤ 512000000 * (k : Int)) := hfb
  have HN : Hid (AllNear l) := hn
  clear hlt hfb hn
  go_enter Tryz.func29, Tryz.ntmps29
  go_wp2
  go_loopw [6, 5] (fun i n wr => ∃ k : Nat, 2 ≤ k ∧ k ≤ 62 ∧ (k ≤ c.length ∨ k = 2) ∧ i = .int .i64 k ∧ n = .int .i64 (fan (cp l c) k) ∧ Below w.heap.size w wr) (fun i _ _ => 62 - (intOf i).toNat)
  case atStart => exact ⟨2, by omega, by omega, .inr rfl, rfl, by rw [fan_le _ 2 (by omega)], Below.refl _ _⟩
  case round =>
    obtain ⟨k, hk2, hk62, hkc, rfl, rfl, hb⟩ := hrel
    by_cases hkl : k < c.length
    · obtain ⟨m, rfl⟩ : ∃ m, k = m + 1 := ⟨k - 1, by omega⟩
      have z0 := (hns.below hb hg8) 0 (by omega)
      have z1 := (hns.below hb hg8) m (by omega)
      have z2 := (hns.below hb hg8) (m + 1) hkl
      have x0 := HLT.out 0 (by omega)
      have x1 := HLT.out m (by omega)
      have x2 := HLT.out (m + 1) hkl
      obtain ⟨p0, p1⟩ := (hp.below hb hg) _ x0
      obtain ⟨p2, p3⟩ := (hp.below hb hg) _ x1
      obtain ⟨p4, p5⟩ := (hp.below hb hg) _ x2
      rw [Nat.zero_add] at z0 z1 z2 p0 p1 p2 p3 p4 p5
      have n0 := HN.out _ x0
      have n1 := HN.out _ x1
      have n2 := HN.out _ x2
      have hstep : fan (cp l c) (m + 1 + 1) = fan (cp l c) (m + 1) + sideN (px l (c.getD 0 0)) (py l (c.getD 0 0)) (px l (c.getD m 0)) (py l (c.getD m 0)) (px l (c.getD (m + 1) 0)) (py l (c.getD (m + 1) 0)) := by
        show fan (cp l c) (m + 1) + (if 2 ≤ m + 1 then sd (cp l c 0) (cp l c (m + 1 - 1)) (cp l c (m + 1)) else 0) = _
        rw [if_pos hk2]; rfl
      have SC := fun W => kside_any _ _ _ _ _ _ W n0 n1 n2
      have f1 := HFB.out (m + 1) (by omega)
      have f2 := HFB.out (m + 1 + 1) (by omega)
      rw [hstep] at f2
      have HST : Hid (fan (cp l c) (m + 1 + 1) = fan (cp l c) (m + 1) + sideN (px l (c.getD 0 0)) (py l (c.getD 0 0)) (px l (c.getD m 0)) (py l (c.getD m 0)) (px l (c.getD (m + 1) 0)) (py l (c.getD (m + 1) 0))) := hstep
      clear hstep n0 n1 n2 hns hp
      unfold px py at SC f2 HST
      generalize c.getD 0 0 = i0 at *
      generalize c.getD m 0 = i1 at *
      generalize c.getD (m + 1) 0 = i2 at *
      generalize sideN (l.getD i0 (0, 0)).1 (l.getD i0 (0, 0)).2 (l.getD i1 (0, 0)).1 (l.getD i1 (0, 0)).2 (l.getD i2 (0, 0)).1 (l.getD i2 (0, 0)).2 = S at *
      generalize fan (cp l c) (m + 1) = F at *
      generalize (l.getD i0 (0, 0)).1 = ax at *
      generalize (l.getD i0 (0, 0)).2 = ay at *
      generalize (l.getD i1 (0, 0)).1 = bx at *
      generalize (l.getD i1 (0, 0)).2 = by2 at *
      generalize (l.getD i2 (0, 0)).1 = cx at *
      generalize (l.getD i2 (0, 0)).2 = cy at *
      have gW : g < wr.heap.size := Nat.lt_of_lt_of_le hg hb.size
      have g8W : g8 < wr.heap.size := Nat.lt_of_lt_of_le hg8 hb.size
      have y0 : (0 : Int) < (c.length : Int) := by omega
      have y00 : 0 < c.length := by omega
      have y1 : (m : Int) + 1 < (c.length : Int) := by omega
      have y2 : (0 : Int) ≤ (m : Int) := by omega
      have y3 : (m : Int) < (c.length : Int) := by omega
      have y4 : (i0 : Int) < (l.length : Int) := by omega
      have y5 : (i1 : Int) < (l.length : Int) := by omega
      have y6 : (i2 : Int) < (l.length : Int) := by omega
      have y7 : (0 : Int) ≤ (m : Int) + 1 := by omega
      have y8 : IntKind.i64.wrap (m : Int) = (m : Int) := wrap_id (by omega) (by omega)
      have y9 : (0 : Int) ≤ (i0 : Int) := by omega
      have y10 : (0 : Int) ≤ (i1 : Int) := by omega
      have y13 : (0 : Int) ≤ (i2 : Int) := by omega
      have y11 : IntKind.i64.wrap ((m : Int) + 1 + 1) = (m : Int) + 1 + 1 := wrap_id (by omega) (by omega)
      have y12 : IntKind.i64.wrap (F + S) = F + S := wrap_id (by omega) (by omega)
      go_wp2_with fail
      go_region_held3 (fun w' => Below wr.heap.size wr w' ∧ ∀ b o, b < wr.heap.size → w'.cell? ⟨b, o, none⟩ = wr.cell? ⟨b, o, none⟩) (first | exact keep0 _ | exact keep1 (by assumption) hb1)
        (first | (go_at_call 19; refine (SC _).mono ?_; rintro e w' ⟨rfl, hb1⟩))
      rename_i hS
      have hb2 := hb.trans (hS.1.mono hb.size)
      clear hS hb1 SC z0 z1 z2 p0 p1 p2 p3 p4 p5
      go_wp2
      go_roundw
      case rel => exact ⟨m + 1 + 1, by omega, by omega, .inl (by omega), by go_num, by rw [HST.out], hb2⟩
      case measure => simp [intOf]; omega
    · go_wp2
      go_ret
      refine ⟨?_, hb⟩
      rcases hkc with h | h
      · have : k = c.length := by omega
        rw [this]; rfl
      · subst h
        rw [fan_le _ 2 (by omega), fan_le _ c.length (by omega)]; rfl

set_option maxHeartbeats 400000 in
theorem area_none (a : Option Addr) (n gc : Nat) (ha : Option Addr) (c8 : Nat) (w : World) :
    Calls Tryz.prog 29 #[.slice a n gc, .slice ha 0 c8] w fun e w' => e = .returned (iv 0) ∧ w' = w := by
  go_enter Tryz.func29, Tryz.ntmps29
  go_wp2
  go_loopw [6, 5] (fun i n wr => i = .int .i64 2 ∧ n = .int .i64 0 ∧ wr = w) (fun i _ _ => 0)
  case atStart => exact ⟨rfl, rfl, rfl⟩
  case round =>
    obtain ⟨rfl, rfl, rfl⟩ := hrel
    go_wp2
    go_ret
    exact ⟨rfl, rfl⟩
end Go.Proofs.YtgpapegpdfonpaaGreat
