/-
  What the mesh calls of package slices: Index, Contains, BinarySearch, Delete; the distance; the lesser first.
-/
import Derived.Test.YtgpapegpdfonpaaGreatPtsA
import Derived.Test.YtgpapegpdfonpaaGreatPtsR
import Derived.Deep.LoopGhost
import Derived.Deep.Draws
import Derived.Deep.RegionLaw
namespace Go.Proofs.YtgpapegpdfonpaaGreat
set_option linter.unusedVariables false
set_option linter.unusedSimpArgs false
open Go.RowKit
attribute [local go_sem ↓] Go.wp_at_zero Go.wp_at_succ

/-! ### Index, Contains -/
def IdxP (l : List Pt) (p : Pt) (n : Int) : Prop := (∃ i : Nat, i < l.length ∧ ptAt l i = p ∧ n = i) ∨ ((∀ i, i < l.length → ptAt l i ≠ p) ∧ n = -1)
set_option maxRecDepth 100000 in
set_option maxHeartbeats 2000000 in
theorem pidx_any (a : Option Addr) (cap : Nat) (l : List Pt) (px py : Int) (w : World) (hl : l.length ≤ 60) (hr : RawAt w a l) :
    Calls Tryz.prog 35 #[.slice a l.length cap, .agg #[.int .i64 px, .int .i64 py]] w fun e w' => ∃ n, e = .returned (.int .i64 n) ∧ IdxP l (px, py) n ∧ Below w.heap.size w w' := by
  go_enter Tryz.func35, Tryz.ntmps35
  go_wp2
  have hb0 := below1 w (.cells #[.int .i64 px, .int .i64 py] 32)
  have x0 : (w.alloc (.cells #[.int .i64 px, .int .i64 py] 32)).cell? ⟨w.heap.size, 0, none⟩ = some (.int .i64 px) := by rw [World.cell?_alloc_at _ _ _ _ (by simp)]; rfl
  have x1 : (w.alloc (.cells #[.int .i64 px, .int .i64 py] 32)).cell? ⟨w.heap.size, 1, none⟩ = some (.int .i64 py) := by rw [World.cell?_alloc_at _ _ _ _ (by simp)]; rfl
  have hs0 : (w.alloc (.cells #[.int .i64 px, .int .i64 py] 32)).heap.size = w.heap.size + 1 := by simp
  generalize w.alloc (.cells #[.int .i64 px, .int .i64 py] 32) = W at *
  have HRA : Hid (RawAt W a l) := raw_below hr hb0
  have hxW : w.heap.size < W.heap.size := by omega
  have HB0 : Hid (Below w.heap.size w W) := hb0
  clear hr hs0 hb0
  generalize hBX : w.heap.size = BX at *
  go_loopw [8] (fun s8 wr => ∃ k : Nat, k ≤ l.length ∧ s8 = .int .i64 k ∧ (∀ j, j < k → ptAt l j ≠ (px, py)) ∧ Below W.heap.size W wr) (fun i _ => l.length - (intOf i).toNat)
  case atStart => exact ⟨0, Nat.zero_le _, rfl, fun j hj => by omega, Below.refl _ _⟩
  case round =>
    obtain ⟨k, hk, rfl, hno, hbr⟩ := hrel
    have HNO : Hid (∀ j, j < k → ptAt l j ≠ (px, py)) := hno
    clear hno
    by_cases hkl : k < l.length
    · rcases raw_below HRA.out hbr with h | ⟨b, off, rfl, hb, hp⟩
      · rw [h] at hkl; simp at hkl
      obtain ⟨c0, c1⟩ := hp k hkl
      have q0 := (hbr.cell (p := ⟨BX, 0, none⟩) hxW).trans x0
      have q1 := (hbr.cell (p := ⟨BX, 1, none⟩) hxW).trans x1
      have y0 : (0 : Int) ≤ (k : Int) := by omega
      have y1 : (k : Int) < (l.length : Int) := by omega
      have y4 : IntKind.i64.wrap ((k : Int) + 1) = (k : Int) + 1 := wrap_id (by omega) (by omega)
      have HP : Hid (ptAt l k = ((l.getD k (0, 0)).1, (l.getD k (0, 0)).2)) := rfl
      clear hp
      generalize (l.getD k (0, 0)).1 = qx at *
      generalize (l.getD k (0, 0)).2 = qy at *
      by_cases e1 : px = qx
      · by_cases e2 : py = qy
        · subst e1 e2
          have HI : Hid (IdxP l (px, py) k) := .inl ⟨k, hkl, HP.out, rfl⟩
          clear HNO HP
          go_wp2_with fail
          go_quiet (fail)
          go_wp2
          go_ret
          rw [hBX]
          exact ⟨k, rfl, HI.out, below_drewN (HB0.out.trans (hbr.mono (by omega)))⟩
        · have HN : Hid (∀ j, j < k + 1 → ptAt l j ≠ (px, py)) := fun j hj => by
            by_cases e : j = k
            · subst e; rw [HP.out]; intro h; exact e2 (Prod.mk.inj h).2.symm
            · exact HNO.out j (by omega)
          clear HNO HP
          go_wp2_with fail
          go_quiet (fail)
          go_wp2
          go_roundw
          case rel => exact ⟨k + 1, by omega, by go_num, HN.out, below_drewN hbr⟩
          case measure => simp [intOf]; omega
      · have HN : Hid (∀ j, j < k + 1 → ptAt l j ≠ (px, py)) := fun j hj => by
          by_cases e : j = k
          · subst e; rw [HP.out]; intro h; exact e1 (Prod.mk.inj h).1.symm
          · exact HNO.out j (by omega)
        clear HNO HP
        go_wp2_with fail
        go_quiet (fail)
        go_wp2
        go_roundw
        case rel => exact ⟨k + 1, by omega, by go_num, HN.out, below_drewN hbr⟩
        case measure => simp [intOf]; omega
    · have ek : k = l.length := by omega
      subst ek
      have HI : Hid (IdxP l (px, py) (-1)) := .inr ⟨HNO.out, rfl⟩
      clear HNO
      go_wp2
      go_ret
      rw [hBX]
      exact ⟨-1, rfl, HI.out, HB0.out.trans (hbr.mono (by omega))⟩
theorem IdxP.dec {l : List Pt} {p : Pt} {n : Int} (h : IdxP l p n) : decide (0 ≤ n) = decide (p ∈ l) := by
  rcases h with ⟨i, hi, e, rfl⟩ | ⟨hno, rfl⟩
  · have : p ∈ l := by rw [← e]; exact ptAt_mem hi
    rw [decide_eq_true this, decide_eq_true (by omega)]
  · have : p ∉ l := fun hm => by
      obtain ⟨i, hi, e⟩ := List.getElem_of_mem hm
      exact hno i hi (by unfold ptAt px py; simp [hi, e])
    rw [decide_eq_false this]; rfl
set_option maxHeartbeats 800000 in
theorem pcont_any (a : Option Addr) (cap : Nat) (l : List Pt) (px py : Int) (w : World) (hl : l.length ≤ 60) (hr : RawAt w a l) :
    Calls Tryz.prog 32 #[.slice a l.length cap, .agg #[.int .i64 px, .int .i64 py]] w fun e w' => e = .returned (.bool (decide ((px, py) ∈ l))) ∧ Below w.heap.size w w' := by
  have hb0 := below1 w (.cells #[.int .i64 px, .int .i64 py] 32)
  have hr1 : RawAt (w.alloc (.cells #[.int .i64 px, .int .i64 py] 32)) a l := raw_below hr hb0
  go_enter Tryz.func32, Tryz.ntmps32
  go_wp2_with (go_at_call 35; refine (pidx_any _ _ l _ _ _ hl hr1).mono ?_; rintro e w' ⟨n, rfl, hn, hb1⟩)
  go_ret
  exact ⟨by rw [← hn.dec]; rfl, hb0.trans (hb1.mono hb0.size)⟩

/-! ### Index of a number -/
set_option maxHeartbeats 2000000 in
theorem nidx_any (g cap : Nat) (is : List Nat) (n : Nat) (w : World) (hl : is.length ≤ 1000) (hg : g < w.heap.size) (hn : NatsAt w g 0 is) (i : Nat) (hi : i < is.length) (he : is.getD i 0 = n) (hnd : ∀ j, j < i → is.getD j 0 ≠ n) :
    Calls Tryz.prog 49 #[.slice (some ⟨g, 0, none⟩) is.length cap, .int .i64 (n : Int)] w fun e w' => e = .returned (.int .i64 (i : Int)) ∧ w' = w := by
  go_enter Tryz.func49, Tryz.ntmps49
  go_wp2
  go_loopw [8] (fun s8 wr => ∃ k : Nat, k ≤ i ∧ s8 = .int .i64 k ∧ wr = w) (fun s _ => is.length - (intOf s).toNat)
  case atStart => exact ⟨0, Nat.zero_le _, rfl, rfl⟩
  case round =>
    obtain ⟨k, hk, rfl, rfl⟩ := hrel
    have c0 := hn k (by omega)
    rw [Nat.zero_add] at c0
    have y0 : (0 : Int) ≤ (k : Int) := by omega
    have y1 : (k : Int) < (is.length : Int) := by omega
    have y4 : IntKind.i64.wrap ((k : Int) + 1) = (k : Int) + 1 := wrap_id (by omega) (by omega)
    by_cases e : k = i
    · subst e
      rw [he] at c0
      have hq : ((n : Int) == (n : Int)) = true := by simp
      clear hnd hn
      go_wp2
      go_ret
      exact ⟨rfl, rfl⟩
    · have hne := hnd k (by omega)
      have hq : ((n : Int) == ((is.getD k 0 : Nat) : Int)) = false := beq_eq_false_iff_ne.2 (by omega)
      generalize is.getD k 0 = v at *
      clear hnd hn
      go_wp2
      go_roundw
      case rel => exact ⟨k + 1, by omega, by go_num, by first | rfl | trivial⟩
      case measure => simp [intOf]; omega

/-! ### BinarySearch -/
set_option maxHeartbeats 1000000 in
theorem isnan_cmp (x : Int) (w : World) : Calls Tryz.prog 71 #[.int .i64 x] w fun e w' => e = .returned (.bool false) ∧ w' = w := by
  go_enter Tryz.func71, Tryz.ntmps71
  go_wp2
  go_ret
  exact ⟨by simp, rfl⟩
/-! ### the distance; the lesser first -/
set_option maxHeartbeats 1000000 in
theorem apart_any (ax ay bx by' : Int) (w : World) (ha : Near ax ay) (hb : Near bx by') :
    Calls Tryz.prog 26 #[.agg #[.int .i64 ax, .int .i64 ay], .agg #[.int .i64 bx, .int .i64 by']] w fun e w' => e = .returned (.int .i64 (dst (bx, by') (ax, ay))) ∧ Below w.heap.size w w' := by
  have HN : Hid (Near ax ay ∧ Near bx by') := ⟨ha, hb⟩
  have s1 : -16000 ≤ bx - ax ∧ bx - ax ≤ 16000 ∧ -16000 ≤ by' - ay ∧ by' - ay ≤ 16000 := by
    obtain ⟨a1, a2, a3, a4⟩ := ha; obtain ⟨b1, b2, b3, b4⟩ := hb; omega
  have hb0 := below2 w (.cells #[.int .i64 ax, .int .i64 ay] 32) (.cells #[.int .i64 bx, .int .i64 by'] 32)
  clear ha hb
  go_enter Tryz.func26, Tryz.ntmps26
  go_wp2_with (first
    | (go_at_call 42; refine (stepFrom_any _ _ _ _ _ HN.out.1 HN.out.2).mono ?_; rintro e w1 ⟨rfl, hb1⟩)
    | (go_at_call 43; refine (square_any _ _ _ s1.1 s1.2.1 s1.2.2.1 s1.2.2.2).mono ?_; rintro e w2 ⟨rfl, hb2⟩))
  go_ret
  have h01 := hb0.trans (hb1.mono hb0.size)
  exact ⟨rfl, h01.trans (hb2.mono h01.size)⟩
set_option maxHeartbeats 1000000 in
theorem lesser_any (a b : Int) (w : World) :
    Calls Tryz.prog 50 #[.int .i64 a, .int .i64 b] w fun e w' => e = .returned (.slice (some ⟨w.heap.size, 0, none⟩) 2 2) ∧ w'.ownsRow w.heap.size 3 1 (.slice (some ⟨w.heap.size, 0, none⟩) 2 2) 2 [.int .i64 (min a b), .int .i64 (max a b)] ∧ Below w.heap.size w w' := by
  go_enter Tryz.func50, Tryz.ntmps50
  go_wp2
  go_ret

  exact ⟨rfl, ⟨rfl, .inr ⟨w.heap.size, 2, _, rfl, Nat.le_refl _, heap_last _ _, by omega, by decide, rfl, rfl⟩⟩, below1 _ _⟩
end Go.Proofs.YtgpapegpdfonpaaGreat
