/-
  The document's model: between, Flat, rising, proper.
-/
import Derived.Test.YtgpapegpdfonpaaGreatDoorJoinsMath
import Derived.Test.YtgpapegpdfonpaaGreatDoorRefA
import Derived.BigQuiet
import Derived.BigRegion
namespace Go.Proofs.YtgpapegpdfonpaaGreatDoor
set_option linter.unusedVariables false
set_option linter.unusedSimpArgs false
open Go.RowKit

def TrisAt (w : World) (g : Nat) (ts : List T3) : Prop := ∀ j, j < ts.length → w.cell? ⟨g, j * 3, none⟩ = some (iv (ts.getD j (0, 0, 0)).1) ∧ w.cell? ⟨g, j * 3 + 1, none⟩ = some (iv (ts.getD j (0, 0, 0)).2.1) ∧ w.cell? ⟨g, j * 3 + 2, none⟩ = some (iv (ts.getD j (0, 0, 0)).2.2)
theorem TrisAt.below {w w' : World} {g : Nat} {ts : List T3} (h : TrisAt w g ts) (hb : Below w.heap.size w w') (hg : g < w.heap.size) : TrisAt w' g ts := fun j hj =>
  ⟨(hb.cell (p := ⟨g, _, none⟩) hg).trans (h j hj).1, (hb.cell (p := ⟨g, _, none⟩) hg).trans (h j hj).2.1, (hb.cell (p := ⟨g, _, none⟩) hg).trans (h j hj).2.2⟩

def CellsT (w : World) (b : Nat) (t : T3) : Prop := ∀ i, i < 3 → w.cell? ⟨b, i, none⟩ = some (iv (nth3 t i))
theorem cells3 {w : World} {b : Nat} {t : T3} (h0 : w.cell? ⟨b, 0, none⟩ = some (iv t.1)) (h1 : w.cell? ⟨b, 1, none⟩ = some (iv t.2.1)) (h2 : w.cell? ⟨b, 2, none⟩ = some (iv t.2.2)) : CellsT w b t := by
  intro i hi
  match i, hi with
  | 0, _ => exact h0
  | 1, _ => exact h1
  | 2, _ => exact h2

theorem sd_sideN (l : List Pt) (a b c : Nat) : sd (ptAt l a) (ptAt l b) (ptAt l c) = sideN (l.getD a (0, 0)).1 (l.getD a (0, 0)).2 (l.getD b (0, 0)).1 (l.getD b (0, 0)).2 (l.getD c (0, 0)).1 (l.getD c (0, 0)).2 := rfl

set_option maxHeartbeats 400000 in
theorem between_any (ax ay bx by' cx cy : Int) (w : World) (a : Near ax ay) (b : Near bx by') (c : Near cx cy) :
    Calls Tryz.prog 123 #[.agg #[.int .i64 ax, .int .i64 ay], .agg #[.int .i64 bx, .int .i64 by'], .agg #[.int .i64 cx, .int .i64 cy]] w fun e w' =>
      e = .returned (.bool (decide (dt (ax, ay) (bx, by') (cx, cy) < 0))) ∧ Below w.heap.size w w' := by
  obtain ⟨a1, a2, a3, a4⟩ := a; obtain ⟨b1, b2, b3, b4⟩ := b; obtain ⟨c1, c2, c3, c4⟩ := c
  have m1 := @mul_bd (cx - ax) (cx - bx) 16000 16000 (by omega) (by omega) (by omega) (by omega)
  have m2 := @mul_bd (cy - ay) (cy - by') 16000 16000 (by omega) (by omega) (by omega) (by omega)
  unfold dt
  dsimp only
  go_enter Tryz.func123, Tryz.ntmps123
  go_wp2
  go_ret
  exact ⟨rfl, below3 _ _ _ _⟩

set_option maxRecDepth 100000 in
set_option maxHeartbeats 2000000 in
theorem flat_any (b off cap : Nat) (l : List Pt) (w : World) (hl : l.length ≤ 60) (hn : AllNear l) (hb : b < w.heap.size) (hp : PtsAt w b off l) :
    Calls Tryz.prog 92 #[.slice (some ⟨b, off, none⟩) l.length cap] w fun e w' =>
      ∃ B, e = .returned (.bool B) ∧ (B = true ↔ ∀ i, 2 ≤ i → i < l.length → sd (ptAt l 0) (ptAt l 1) (ptAt l i) = 0) ∧ Below w.heap.size w w' := by
  have HN : Hid (AllNear l) := hn
  clear hn
  go_enter Tryz.func92, Tryz.ntmps92
  go_wp2
  go_loopw [3] (fun i wr => ∃ k : Nat, 2 ≤ k ∧ k ≤ 62 ∧ i = .int .i64 k ∧ (∀ j, 2 ≤ j → j < k → j < l.length → sd (ptAt l 0) (ptAt l 1) (ptAt l j) = 0) ∧ Below w.heap.size w wr) (fun i _ => 62 - (intOf i).toNat)
  case atStart => exact ⟨2, by omega, by omega, rfl, fun j h1 h2 => by omega, Below.refl _ _⟩
  case round =>
    obtain ⟨k, hk2, hk62, rfl, hz, hbr⟩ := hrel
    have HZ : Hid (∀ j, 2 ≤ j → j < k → j < l.length → sd (ptAt l 0) (ptAt l 1) (ptAt l j) = 0) := hz
    clear hz
    by_cases hlt : k < l.length
    · have hpr := hp.below hbr hb
      obtain ⟨d0, d1⟩ := hpr 0 (by omega)
      obtain ⟨d2, d3⟩ := hpr 1 (by omega)
      obtain ⟨d4, d5⟩ := hpr k hlt
      simp only [Nat.zero_mul, Nat.one_mul, Nat.add_zero] at d0 d1 d2 d3
      have nA : Near (l.getD 0 (0, 0)).1 (l.getD 0 (0, 0)).2 := HN.out 0 (by omega)
      have nB : Near (l.getD 1 (0, 0)).1 (l.getD 1 (0, 0)).2 := HN.out 1 (by omega)
      have nC : Near (l.getD k (0, 0)).1 (l.getD k (0, 0)).2 := HN.out k hlt
      have SC := fun W => rside_any _ _ _ _ _ _ W nA nB nC
      have hS : sd (ptAt l 0) (ptAt l 1) (ptAt l k) = sideN (l.getD 0 (0, 0)).1 (l.getD 0 (0, 0)).2 (l.getD 1 (0, 0)).1 (l.getD 1 (0, 0)).2 (l.getD k (0, 0)).1 (l.getD k (0, 0)).2 := rfl
      have HS : Hid (sd (ptAt l 0) (ptAt l 1) (ptAt l k) = sideN (l.getD 0 (0, 0)).1 (l.getD 0 (0, 0)).2 (l.getD 1 (0, 0)).1 (l.getD 1 (0, 0)).2 (l.getD k (0, 0)).1 (l.getD k (0, 0)).2) := hS
      clear hS nA nB nC hpr hp
      generalize sideN (l.getD 0 (0, 0)).1 (l.getD 0 (0, 0)).2 (l.getD 1 (0, 0)).1 (l.getD 1 (0, 0)).2 (l.getD k (0, 0)).1 (l.getD k (0, 0)).2 = S at *
      generalize (l.getD 0 (0, 0)).1 = ax at *
      generalize (l.getD 0 (0, 0)).2 = ay at *
      generalize (l.getD 1 (0, 0)).1 = bx at *
      generalize (l.getD 1 (0, 0)).2 = by2 at *
      generalize (l.getD k (0, 0)).1 = cx at *
      generalize (l.getD k (0, 0)).2 = cy at *
      have gr : b < wr.heap.size := Nat.lt_of_lt_of_le hb hbr.size
      have y0 : (0 : Int) < (l.length : Int) := by omega
      have y00 : 0 < l.length := by omega
      have y1 : (1 : Int) < (l.length : Int) := by omega
      have y2 : (0 : Int) ≤ (k : Int) := by omega
      have y3 : (k : Int) < (l.length : Int) := by omega
      have y4 : IntKind.i64.wrap ((k : Int) + 1) = (k : Int) + 1 := wrap_id (by omega) (by omega)
      by_cases hS0 : S = 0
      · have HS0 : Hid (sd (ptAt l 0) (ptAt l 1) (ptAt l k) = 0) := HS.out.trans hS0
        subst hS0
        have hsg : sg 0 = 0 := rfl
        rw [hsg] at SC
        go_wp2_with fail
        go_region_held3 (fun w' => Below wr.heap.size wr w' ∧ ∀ b o, b < wr.heap.size → w'.cell? ⟨b, o, none⟩ = wr.cell? ⟨b, o, none⟩) (first | exact keep0 _ | exact keep1 (by assumption) hb1)
          (first | (go_at_call 87; refine (SC _).mono ?_; rintro e w' ⟨rfl, hb1⟩))
        rename_i hSS
        have hbr2 := hbr.trans (hSS.1.mono hbr.size)
        clear hSS hb1 SC d0 d1 d2 d3 d4 d5
        go_wp2
        go_roundw
        case rel =>
          refine ⟨k + 1, by omega, by omega, by go_num, fun j h1 h2 h3 => ?_, hbr2⟩
          by_cases e : j = k
          · subst e; exact HS0.out
          · exact HZ.out j h1 (by omega) h3
        case measure => simp [intOf]; omega
      · have hsg : ¬ sg S = 0 := fun e => hS0 ((sg_zero_iff _).1 e)
        have HS0 : Hid (¬ sd (ptAt l 0) (ptAt l 1) (ptAt l k) = 0) := fun e => hS0 (HS.out.symm.trans e)
        generalize sg S = G at *
        have hG : (G != 0) = true := by simpa using hsg
        clear hS0 hsg
        go_wp2_with fail
        go_region_held3 (fun w' => Below wr.heap.size wr w' ∧ ∀ b o, b < wr.heap.size → w'.cell? ⟨b, o, none⟩ = wr.cell? ⟨b, o, none⟩) (first | exact keep0 _ | exact keep1 (by assumption) hb1)
          (first | (go_at_call 87; refine (SC _).mono ?_; rintro e w' ⟨rfl, hb1⟩))
        rename_i hSS
        have hbr2 := hbr.trans (hSS.1.mono hbr.size)
        clear hSS hb1 SC d0 d1 d2 d3 d4 d5
        go_wp2
        go_ret
        exact ⟨false, rfl, ⟨fun h => (by cases h), fun h => absurd (h k hk2 hlt) HS0.out⟩, hbr2⟩
    · go_wp2
      go_ret
      exact ⟨true, rfl, ⟨fun _ j h1 h2 => HZ.out j h1 (by omega) h2, fun _ => rfl⟩, hbr⟩

set_option maxHeartbeats 400000 in
theorem flat_none (a : Option Addr) (cap : Nat) (w : World) : Calls Tryz.prog 92 #[.slice a 0 cap] w fun e w' => e = .returned (.bool true) ∧ w' = w := by
  go_enter Tryz.func92, Tryz.ntmps92
  go_wp2
  go_loopw [3] (fun i wr => i = .int .i64 2 ∧ wr = w) (fun i _ => 0)
  case atStart => exact ⟨rfl, rfl⟩
  case round =>
    obtain ⟨rfl, rfl⟩ := hrel
    go_wp2
    go_ret
    exact ⟨rfl, rfl⟩

theorem t3lt_at {s t : T3} (h : t3lt s t) : ∃ i, i < 3 ∧ nth3 s i < nth3 t i ∧ ∀ j, j < i → nth3 s j = nth3 t j := by
  unfold t3lt at h
  rcases h with h | ⟨h, h' | ⟨h', h''⟩⟩
  · exact ⟨0, by omega, h, fun j hj => by omega⟩
  · refine ⟨1, by omega, h', fun j hj => ?_⟩
    have : j = 0 := by omega
    subst this; exact h
  · refine ⟨2, by omega, h'', fun j hj => ?_⟩
    have : j = 0 ∨ j = 1 := by omega
    rcases this with rfl | rfl
    · exact h
    · exact h'

set_option maxRecDepth 100000 in
set_option maxHeartbeats 2000000 in
theorem rising_any (s t : T3) (w : World) (h : t3lt s t) :
    Calls Tryz.prog 122 #[.agg #[iv s.1, iv s.2.1, iv s.2.2], .agg #[iv t.1, iv t.2.1, iv t.2.2]] w fun e w' => e = .returned (.bool true) ∧ Below w.heap.size w w' := by
  obtain ⟨m, hm3, hml, hme⟩ := t3lt_at h
  have HME : Hid (∀ j, j < m → nth3 s j = nth3 t j) := hme
  clear h hme
  go_enter Tryz.func122, Tryz.ntmps122
  go_wp2_with fail
  generalize hW : (w.alloc (.cells #[.int .i64 s.1, .int .i64 s.2.1, .int .i64 s.2.2] 53)).alloc (.cells #[.int .i64 t.1, .int .i64 t.2.1, .int .i64 t.2.2] 53) = W
  have hb0 : Below w.heap.size w W := by rw [← hW]; exact below2 _ _ _
  have C1 : CellsT W w.heap.size s := by
    rw [← hW]
    apply cells3 <;> (rw [World.cell?_alloc_past _ _ _ (by simp), World.cell?_alloc_at _ _ _ _ (by simp)]; rfl)
  have C2 : CellsT W (w.heap.size + 1) t := by
    rw [← hW]
    apply cells3 <;> (rw [World.cell?_alloc_at _ _ _ _ (by simp)]; rfl)
  clear hW
  generalize w.heap.size + 1 = B2 at *
  have hbW : ∀ N, Below w.heap.size w (W.drewN N) := fun N => below_drewN hb0
  generalize hB1 : w.heap.size = B1 at *
  go_loopw [5] (fun i wr => ∃ k : Nat, k ≤ m ∧ i = .int .i64 k ∧ ∃ n, wr = W.drewN n) (fun i _ => 3 - (intOf i).toNat)
  case atStart => exact ⟨0, by omega, rfl, 0, rfl⟩
  case round =>
    obtain ⟨i, hi, rfl, n, rfl⟩ := hrel
    have c0 := C1 i (by omega)
    have c1 := C2 i (by omega)
    have y0 : (0 : Int) ≤ (i : Int) := by omega
    have y1 : (i : Int) < 3 := by omega
    have y2 : IntKind.i64.wrap ((i : Int) + 1) = (i : Int) + 1 := wrap_id (by omega) (by omega)
    by_cases him : i = m
    · subst him
      generalize nth3 s i = x1 at *
      generalize nth3 t i = x2 at *
      have e1 : (x1 != x2) = true := by simp; omega
      have e2 : decide (x1 < x2) = true := decide_eq_true hml
      clear HME
      go_wp2_with fail
      go_quiet (fail)
      go_wp2_with fail
      go_quiet (fail)
      go_wp2
      go_ret
      rw [hB1]
      exact ⟨rfl, by first | exact hbW _ | (simp only [World.drewN_drewN]; exact hbW _)⟩
    · have e0 := HME.out i (by omega)
      rw [e0] at c0
      generalize nth3 t i = x2 at *
      have e1 : (x2 != x2) = false := by simp
      clear e0
      go_wp2_with fail
      go_quiet (fail)
      go_wp2
      go_roundw
      case rel => exact ⟨i + 1, by omega, by go_num, _, by first | rfl | simp [World.drewN_drewN]⟩
      case measure => simp [intOf]; omega
end Go.Proofs.YtgpapegpdfonpaaGreatDoor
