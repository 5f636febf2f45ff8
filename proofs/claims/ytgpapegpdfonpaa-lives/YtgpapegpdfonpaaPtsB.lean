/-
  What the mesh calls of package slices: Index, Contains, BinarySearch, Delete; the distance; the lesser first.
-/
import Derived.Test.YtgpapegpdfonpaaPtsA
import Derived.Test.YtgpapegpdfonpaaPtsR
import Derived.Deep.LoopGhost
import Derived.Deep.Draws
import Derived.Deep.RegionLaw
namespace Go.Proofs.Ytgpapegpdfonpaa
set_option linter.unusedVariables false
set_option linter.unusedSimpArgs false
open Go.RowKit
attribute [local go_sem ↓] Go.wp_at_zero Go.wp_at_succ

/-! ### Index, Contains -/
def IdxP (l : List Pt) (p : Pt) (n : Int) : Prop := (∃ i : Nat, i < l.length ∧ ptAt l i = p ∧ n = i) ∨ ((∀ i, i < l.length → ptAt l i ≠ p) ∧ n = -1)
set_option maxRecDepth 100000 in
set_option maxHeartbeats 2000000 in
theorem pidx_any (a : Option Addr) (cap : Nat) (l : List Pt) (px py : Int) (w : World) (hl : l.length ≤ 60) (hr : RawAt w a l) :
    Calls Try.prog 91 #[.slice a l.length cap, .agg #[.int .i64 px, .int .i64 py]] w fun e w' => ∃ n, e = .returned (.int .i64 n) ∧ IdxP l (px, py) n ∧ Below w.heap.size w w' := by
  go_enter Try.func91, Try.ntmps91
  go_wp2
  have hb0 := below1 w (.cells #[.int .i64 px, .int .i64 py] 23)
  have x0 : (w.alloc (.cells #[.int .i64 px, .int .i64 py] 23)).cell? ⟨w.heap.size, 0, none⟩ = some (.int .i64 px) := by rw [World.cell?_alloc_at _ _ _ _ (by simp)]; rfl
  have x1 : (w.alloc (.cells #[.int .i64 px, .int .i64 py] 23)).cell? ⟨w.heap.size, 1, none⟩ = some (.int .i64 py) := by rw [World.cell?_alloc_at _ _ _ _ (by simp)]; rfl
  have hs0 : (w.alloc (.cells #[.int .i64 px, .int .i64 py] 23)).heap.size = w.heap.size + 1 := by simp
  generalize w.alloc (.cells #[.int .i64 px, .int .i64 py] 23) = W at *
  have HRA : Hid (RawAt W a l) := raw_below hr hb0
  have hxW : w.heap.size < W.heap.size := by omega
  have HB0 : Hid (Below w.heap.size w W) := hb0
  clear hr hs0 hb0
  generalize hBX : w.heap.size = BX at *
  go_loopw [8] (fun s8 wr => ∃ k : Nat, k ≤ l.length ∧ s8 = .int .i64 k ∧ (∀ j, j < k → ptAt l j ≠ (px, py)) ∧ Below W.heap.size W wr) (fun i _ => l.length - (intOf i).toNat)
  case atStart => exact ⟨0, Nat.zero_le _, rfl, fun j hj => by omega, Below.refl _ _⟩
  case round =>
    obtain ⟨k, hk, rfl, hno, hbr⟩ := hrel
    have HNO : Hid (∀ j, j < k → ptAt l j ≠ (px, py)) := hno
    clear hno
    by_cases hkl : k < l.length
    · rcases raw_below HRA.out hbr with h | ⟨b, off, rfl, hb, hp⟩
      · rw [h] at hkl; simp at hkl
      obtain ⟨c0, c1⟩ := hp k hkl
      have q0 := (hbr.cell (p := ⟨BX, 0, none⟩) hxW).trans x0
      have q1 := (hbr.cell (p := ⟨BX, 1, none⟩) hxW).trans x1
      have y0 : (0 : Int) ≤ (k : Int) := by omega
      have y1 : (k : Int) < (l.length : Int) := by omega
      have y4 : IntKind.i64.wrap ((k : Int) + 1) = (k : Int) + 1 := wrap_id (by omega) (by omega)
      have HP : Hid (ptAt l k = ((l.getD k (0, 0)).1, (l.getD k (0, 0)).2)) := rfl
      clear hp
      generalize (l.getD k (0, 0)).1 = qx at *
      generalize (l.getD k (0, 0)).2 = qy at *
      by_cases e1 : px = qx
      · by_cases e2 : py = qy
        · subst e1 e2
          have HI : Hid (IdxP l (px, py) k) := .inl ⟨k, hkl, HP.out, rfl⟩
          clear HNO HP
          go_wp2_with fail
          go_quiet (fail)
          go_wp2
          go_ret
          rw [hBX]
          exact ⟨k, rfl, HI.out, below_drewN (HB0.out.trans (hbr.mono (by omega)))⟩
        · have HN : Hid (∀ j, j < k + 1 → ptAt l j ≠ (px, py)) := fun j hj => by
            by_cases e : j = k
            · subst e; rw [HP.out]; intro h; exact e2 (Prod.mk.inj h).2.symm
            · exact HNO.out j (by omega)
          clear HNO HP
          go_wp2_with fail
          go_quiet (fail)
          go_wp2
          go_roundw
          case rel => exact ⟨k + 1, by omega, by go_num, HN.out, below_drewN hbr⟩
          case measure => simp [intOf]; omega
      · have HN : Hid (∀ j, j < k + 1 → ptAt l j ≠ (px, py)) := fun j hj => by
          by_cases e : j = k
          · subst e; rw [HP.out]; intro h; exact e1 (Prod.mk.inj h).1.symm
          · exact HNO.out j (by omega)
        clear HNO HP
        go_wp2_with fail
        go_quiet (fail)
        go_wp2
        go_roundw
        case rel => exact ⟨k + 1, by omega, by go_num, HN.out, below_drewN hbr⟩
        case measure => simp [intOf]; omega
    · have ek : k = l.length := by omega
      subst ek
      have HI : Hid (IdxP l (px, py) (-1)) := .inr ⟨HNO.out, rfl⟩
      clear HNO
      go_wp2
      go_ret
      rw [hBX]
      exact ⟨-1, rfl, HI.out, HB0.out.trans (hbr.mono (by omega))⟩
theorem IdxP.dec {l : List Pt} {p : Pt} {n : Int} (h : IdxP l p n) : decide (0 ≤ n) = decide (p ∈ l) := by
  rcases h with ⟨i, hi, e, rfl⟩ | ⟨hno, rfl⟩
  · have : p ∈ l := by rw [← e]; exact ptAt_mem hi
    rw [decide_eq_true this, decide_eq_true (by omega)]
  · have : p ∉ l := fun hm => by
      obtain ⟨i, hi, e⟩ := List.getElem_of_mem hm
      exact hno i hi (by unfold ptAt px py; simp [hi, e])
    rw [decide_eq_false this]; rfl
set_option maxHeartbeats 800000 in
theorem pcont_any (a : Option Addr) (cap : Nat) (l : List Pt) (px py : Int) (w : World) (hl : l.length ≤ 60) (hr : RawAt w a l) :
    Calls Try.prog 72 #[.slice a l.length cap, .agg #[.int .i64 px, .int .i64 py]] w fun e w' => e = .returned (.bool (decide ((px, py) ∈ l))) ∧ Below w.heap.size w w' := by
  have hb0 := below1 w (.cells #[.int .i64 px, .int .i64 py] 23)
  have hr1 : RawAt (w.alloc (.cells #[.int .i64 px, .int .i64 py] 23)) a l := raw_below hr hb0
  go_enter Try.func72, Try.ntmps72
  go_wp2_with (go_at_call 91; refine (pidx_any _ _ l _ _ _ hl hr1).mono ?_; rintro e w' ⟨n, rfl, hn, hb1⟩)
  go_ret
  exact ⟨by rw [← hn.dec]; rfl, hb0.trans (hb1.mono hb0.size)⟩

/-! ### BinarySearch -/
set_option maxHeartbeats 1000000 in
theorem isnan_cmp (x : Int) (w : World) : Calls Try.prog 61 #[.int .i64 x] w fun e w' => e = .returned (.bool false) ∧ w' = w := by
  go_enter Try.func61, Try.ntmps61
  go_wp2
  go_ret
  exact ⟨by simp, rfl⟩
set_option maxHeartbeats 1000000 in
theorem isnan_sl (x : Int) (w : World) : Calls Try.prog 93 #[.int .i64 x] w fun e w' => e = .returned (.bool false) ∧ w' = w := by
  go_enter Try.func93, Try.ntmps93
  go_wp2
  go_ret
  exact ⟨by simp, rfl⟩
set_option maxHeartbeats 1000000 in
theorem less_any (x y : Int) (w : World) : Calls Try.prog 92 #[.int .i64 x, .int .i64 y] w fun e w' => e = .returned (.bool (decide (x < y))) ∧ w' = w := by
  go_enter Try.func92, Try.ntmps92
  go_wp2_with (go_at_call 61; refine (isnan_cmp _ _).mono ?_; rintro e w' ⟨rfl, rfl⟩)
  go_ret
  exact ⟨by simp, rfl⟩
set_option maxHeartbeats 4000000 in
set_option maxRecDepth 1000000 in
theorem bsearch_any (a : Option Addr) (c : Nat) (ns : List Int) (x : Int) (w : World) (hl : ns.length ≤ 60) (hn : NumsAt w a ns) (hinc : ns.Pairwise (· < ·)) :
    Calls Try.prog 73 #[.slice a ns.length c, .int .i64 x] w fun e w' => ∃ i : Nat, e = .returned (.tuple #[.int .i64 (i : Int), .bool (decide (x ∈ ns))]) ∧ (x ∈ ns → i < ns.length ∧ ns.getD i 0 = x) ∧ Below w.heap.size w w' := by
  have S : Hid (∀ a b, a ≤ b → b < ns.length → ns.getD a 0 ≤ ns.getD b 0) := fun i j hij hj => by
    rcases Nat.lt_or_ge i j with h | h
    · have := List.pairwise_iff_getElem.1 hinc i j (by omega) hj h
      have e1 : ns.getD i 0 = ns[i] := by simp [show i < ns.length by omega]
      have e2 : ns.getD j 0 = ns[j] := by simp [hj]
      omega
    · have : i = j := by omega
      subst this; exact Int.le_refl _
  have HN : Hid (NumsAt w a ns) := hn
  clear hinc hn
  go_enter Try.func73, Try.ntmps73
  go_wp2
  go_loopg [7, 8] ns.length (fun g s7 s8 wr => ∃ lo hi q : Nat, s7 = .int .i64 lo ∧ s8 = .int .i64 hi ∧ lo ≤ hi ∧ hi ≤ ns.length ∧ hi - lo ≤ g ∧ wr = w.drewN q ∧ (∀ t, t < lo → ns.getD t 0 < x) ∧ (∀ t, hi ≤ t → t < ns.length → x ≤ ns.getD t 0))
  case atStart => exact ⟨0, ns.length, 0, rfl, rfl, Nat.zero_le _, Nat.le_refl _, by omega, rfl, fun t ht => absurd ht (Nat.not_lt_zero _), fun t h1 h2 => by omega⟩
  case round =>
    obtain ⟨lo, hi, q, rfl, rfl, hlh, hin, hg, rfl, h1, h2⟩ := hrel
    have I : Hid ((∀ t, t < lo → ns.getD t 0 < x) ∧ (∀ t, hi ≤ t → t < ns.length → x ≤ ns.getD t 0)) := ⟨h1, h2⟩
    clear h1 h2
    by_cases hlt : lo < hi
    · obtain ⟨G, rfl, cm⟩ := HN.out ((lo + hi) / 2) (by omega)
      generalize hy : ns.getD ((lo + hi) / 2) 0 = y at cm
      have Y : Hid (ns.getD ((lo + hi) / 2) 0 = y) := hy
      clear hy
      by_cases hyx : y < x
      · go_wp2_with (first | (go_at_call 92; refine (less_any _ _ _).mono ?_; rintro e w' ⟨rfl, rfl⟩) | (go_at_call 93; refine (isnan_sl _ _).mono ?_; rintro e w' ⟨rfl, rfl⟩))
        go_roundg (hi - ((lo + hi) / 2 + 1))
        case measure => omega
        case rel =>
          refine ⟨(lo + hi) / 2 + 1, hi, _, by rw [show ((lo : Int) + (hi : Int)) / 2 + 1 = (((lo + hi) / 2 + 1 : Nat) : Int) by omega], rfl, by omega, hin, Nat.le_refl _, rfl, fun t ht => ?_, I.out.2⟩
          have := S.out t ((lo + hi) / 2) (by omega) (by omega)
          rw [Y.out] at this
          omega
      · go_wp2_with (first | (go_at_call 92; refine (less_any _ _ _).mono ?_; rintro e w' ⟨rfl, rfl⟩) | (go_at_call 93; refine (isnan_sl _ _).mono ?_; rintro e w' ⟨rfl, rfl⟩))
        go_roundg ((lo + hi) / 2 - lo)
        case measure => omega
        case rel =>
          refine ⟨lo, (lo + hi) / 2, _, rfl, by rw [show ((lo : Int) + (hi : Int)) / 2 = (((lo + hi) / 2 : Nat) : Int) by omega], by omega, by omega, Nat.le_refl _, rfl, I.out.1, fun t ht htn => ?_⟩
          have := S.out ((lo + hi) / 2) t ht htn
          rw [Y.out] at this
          omega
    · have : hi = lo := by omega
      subst this
      have hmem : x ∈ ns → hi < ns.length ∧ ns.getD hi 0 = x := fun hm => by
        obtain ⟨j, hj, e⟩ := List.getElem_of_mem hm
        have ej : ns.getD j 0 = x := by simp [hj, e]
        have j1 : hi ≤ j := by
          rcases Nat.lt_or_ge j hi with h | h
          · have := I.out.1 j h; omega
          · exact h
        have j2 := I.out.2 hi (Nat.le_refl _) (by omega)
        have j3 := S.out hi j j1 hj
        exact ⟨by omega, by omega⟩
      have HM : Hid (x ∈ ns → hi < ns.length ∧ ns.getD hi 0 = x) := hmem
      clear hmem
      by_cases hn : hi < ns.length
      · obtain ⟨G, rfl, cl⟩ := HN.out hi hn
        generalize hy : ns.getD hi 0 = y at cl
        have Y : Hid (ns.getD hi 0 = y) := hy
        clear hy
        by_cases hyx : y = x
        · have HX : Hid (x ∈ ns) := by unfold Hid; rw [← hyx, ← Y.out]; exact getD_mem hn
          go_wp2_with (first | (go_at_call 92; refine (less_any _ _ _).mono ?_; rintro e w' ⟨rfl, rfl⟩) | (go_at_call 93; refine (isnan_sl _ _).mono ?_; rintro e w' ⟨rfl, rfl⟩))
          go_ret2
          refine ⟨hi, ?_, HM.out, below_drewN (Below.refl _ _)⟩
          rw [decide_eq_true HX.out]
          first | rfl | simp [*]
        · have HX : Hid (x ∉ ns) := fun hm => by
            have := HM.out hm
            rw [Y.out] at this
            exact hyx this.2
          go_wp2_with (first | (go_at_call 92; refine (less_any _ _ _).mono ?_; rintro e w' ⟨rfl, rfl⟩) | (go_at_call 93; refine (isnan_sl _ _).mono ?_; rintro e w' ⟨rfl, rfl⟩))
          go_ret2
          refine ⟨hi, ?_, HM.out, below_drewN (Below.refl _ _)⟩
          rw [decide_eq_false HX.out]
          first | rfl | simp [*]
      · have HX : Hid (x ∉ ns) := fun hm => by
          have := HM.out hm
          omega
        go_wp2_with (first | (go_at_call 92; refine (less_any _ _ _).mono ?_; rintro e w' ⟨rfl, rfl⟩) | (go_at_call 93; refine (isnan_sl _ _).mono ?_; rintro e w' ⟨rfl, rfl⟩))
        go_ret2
        refine ⟨hi, ?_, HM.out, below_drewN (Below.refl _ _)⟩
        rw [decide_eq_false HX.out]
        first | rfl | simp [*]

end Go.Proofs.Ytgpapegpdfonpaa
